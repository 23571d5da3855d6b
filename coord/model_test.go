package coord_test

import (
	"cmp"
	"slices"

	"parrel/api"
	"parrel/coord"
	"parrel/msg"
	"parrel/part"
	"parrel/store"
)

// ballot is a member, and what it voted.
type ballot struct {
	coord.Member
	vote uint8
}

// question is a transaction that is asked.
type question struct {
	tx      api.Tx
	ballots []ballot
	writes  []api.Write
	missing []uint64
	lates   int
}

// debt is a message that is to be told, again and again, until what it tells of is told back.
type debt struct {
	tx  api.Tx
	key api.Key // of a Fresh; a Decide has none
	to  part.Send
}

// model is a coordinator and its store as lists, told without package coord, word by word as the chapter does; all that it is handed may be.
type model struct {
	asked   []question
	decided []api.Tx
	debts   []debt // each decided one's stand in the order in which they are told
	stored  []api.Tx
	armed   bool // whether the next Force finds the power off
	off     bool // whether it is
}

// modelOf is the coordinator of a store that was opened just now: it has what that has.
func modelOf(s *store.Store) *model {
	m := &model{}
	for _, x := range s.Decisions() {
		m.stored = append(m.stored, x.Tx)
		m.owe(x)
	}
	return m
}

// owe makes one decided.
func (m *model) owe(x store.Decision) {
	m.decided = append(m.decided, x.Tx)
	for n := range uint8(mostNodes) {
		if x.Members>>n&1 == 1 {
			m.debts = append(m.debts, debt{tx: x.Tx, to: part.Send{To: n, Msg: msg.Msg{Kind: msg.Decide, Tx: x.Tx, Yes: toCommit}}})
		}
	}
	for at, w := range x.Writes {
		for n := range uint8(mostNodes) {
			if x.Missing[at]>>n&1 == 1 {
				m.debts = append(m.debts, debt{x.Tx, w.Key, part.Send{To: n, Msg: msg.Msg{Kind: msg.Fresh, Tx: x.Tx, Key: w.Key, Item: w.Item}}})
			}
		}
	}
}

func (m *model) start(t api.Tx, members []coord.Member, writes []api.Write, missing []uint64) ([]part.Send, []coord.Done, api.Errno) {
	if m.question(t) != nil || slices.Contains(m.decided, t) {
		return nil, nil, api.ErrThere
	}
	if len(members) == 0 {
		return nil, []coord.Done{{Tx: t, Committed: true}}, api.OK
	}
	q := question{tx: t, writes: writes, missing: missing}
	for _, y := range members {
		q.ballots = append(q.ballots, ballot{Member: y})
	}
	m.asked = append(m.asked, q)
	return q.ask(), nil, api.OK
}

func (m *model) vote(from uint8, x msg.Msg) ([]part.Send, []coord.Done) {
	q := m.question(x.Tx)
	if q == nil {
		if x.Yes != voteYes {
			return nil, nil
		}
		return m.answer(from, x.Tx), nil
	}
	at := slices.IndexFunc(q.ballots, func(b ballot) bool { return b.Node == from })
	if at < 0 || q.ballots[at].Reg != x.Reg || q.ballots[at].vote != 0 {
		return nil, nil
	}
	q.ballots[at].vote = x.Yes
	if x.Yes == voteNo {
		return m.abort(x.Tx)
	}
	made := store.Decision{Tx: x.Tx, Writes: q.writes, Missing: q.missing}
	for _, b := range q.ballots {
		switch b.vote {
		case 0:
			return nil, nil
		case voteYes:
			made.Members += 1 << b.Node
		}
	}
	switch {
	case made.Members == 0:
		m.forget(x.Tx)
		return nil, []coord.Done{{Tx: x.Tx, Committed: true}}
	case len(q.writes) == 0 || slices.Contains(m.stored, x.Tx):
		return m.abort(x.Tx)
	case m.off || m.armed:
		m.off = true
		return nil, nil
	}
	m.stored = append(m.stored, x.Tx)
	m.forget(x.Tx)
	m.owe(made)
	return m.owed(x.Tx), []coord.Done{{Tx: x.Tx, Committed: true}}
}

// told is an Ack, which has no key, or a Kept.
func (m *model) told(from uint8, x msg.Msg) {
	m.debts = slices.DeleteFunc(m.debts, func(d debt) bool { return d.tx == x.Tx && d.key == x.Key && d.to.To == from })
	if !slices.Contains(m.decided, x.Tx) || len(m.owed(x.Tx)) > 0 {
		return
	}
	m.decided = slices.DeleteFunc(m.decided, func(t api.Tx) bool { return t == x.Tx })
	if !m.off {
		m.stored = slices.DeleteFunc(m.stored, func(t api.Tx) bool { return t == x.Tx })
	}
}

func (m *model) inquire(from uint8, x msg.Msg) []part.Send {
	if m.question(x.Tx) != nil {
		return nil
	}
	return m.answer(from, x.Tx)
}

func (m *model) late(t api.Tx) ([]part.Send, []coord.Done) {
	q := m.question(t)
	if q == nil {
		return m.owed(t), nil
	}
	q.lates++
	if q.lates == lastLate {
		return m.abort(t)
	}
	return q.ask(), nil
}

func (m *model) abort(t api.Tx) ([]part.Send, []coord.Done) {
	var out []part.Send
	for _, b := range m.question(t).ballots {
		if b.vote != voteRead && b.vote != voteNo {
			out = append(out, part.Send{To: b.Node, Msg: msg.Msg{Kind: msg.Decide, Tx: t, Yes: toAbort}})
		}
	}
	m.forget(t)
	return out, []coord.Done{{Tx: t}}
}

// forget takes one away that is asked.
func (m *model) forget(t api.Tx) {
	m.asked = slices.DeleteFunc(m.asked, func(q question) bool { return q.tx == t })
}

func (m *model) answer(to uint8, t api.Tx) []part.Send {
	yes := uint8(toAbort)
	if slices.Contains(m.decided, t) {
		yes = toCommit
	}
	return []part.Send{{To: to, Msg: msg.Msg{Kind: msg.Decide, Tx: t, Yes: yes}}}
}

// owed is what is to be told of one.
func (m *model) owed(t api.Tx) []part.Send {
	var out []part.Send
	for _, d := range m.debts {
		if d.tx == t {
			out = append(out, d.to)
		}
	}
	return out
}

// question is what is asked of one, if it is.
func (m *model) question(t api.Tx) *question {
	for n := range m.asked {
		if m.asked[n].tx == t {
			return &m.asked[n]
		}
	}
	return nil
}

func (q question) ask() []part.Send {
	var out []part.Send
	for _, b := range q.ballots {
		if b.vote == 0 {
			out = append(out, part.Send{To: b.Node, Msg: msg.Msg{Kind: msg.Prepare, Tx: q.tx, Reg: b.Reg, Writes: b.Writes}})
		}
	}
	return out
}

func byName(a, b api.Tx) int {
	return cmp.Or(cmp.Compare(a.Node, b.Node), cmp.Compare(a.Boot, b.Boot), cmp.Compare(a.Num, b.Num))
}

// chance is a row of numbers, the same each time.
type chance uint64

func (x *chance) below(n int) int {
	*x ^= *x << 13
	*x ^= *x >> 7
	*x ^= *x << 17
	return int(uint64(*x>>11) % uint64(n))
}
