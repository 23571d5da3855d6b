package part_test

import (
	"bytes"
	"cmp"
	"slices"

	"parrel/api"
	"parrel/msg"
	"parrel/part"
	"parrel/store"
)

// claim is a lock, or a wait, which has the number of its ask.
type claim struct {
	tx   api.Tx
	key  api.Key
	mode uint8
	no   uint32
}

// work is what is staged.
type work struct {
	tx     api.Tx
	reg    api.Reg
	writes []api.Write
}

// named is a known one.
type named struct {
	tx  api.Tx
	reg api.Reg
}

// model is a part, its locks and its store as lists, told without packages part and lock, word by word as the chapters do; all messages that it is handed may be.
type model struct {
	boot, count uint32
	items       []api.Write
	staged      []work
	known       []named
	users       []api.Stamp
	locks       []claim
	waits       []claim
	armed, off  bool // whether the next Force finds the power off; whether it is
}

// modelOf is the part of a store that was opened just now: it has what that has.
func modelOf(s *store.Store) *model {
	m := &model{boot: s.Boot(), items: s.Items()}
	for _, x := range s.Staged() {
		l, g, _ := s.Writes(x)
		m.staged = append(m.staged, work{x, g, l})
		m.users = append(m.users, api.Stamp{Tx: x})
		for _, w := range l {
			m.locks = append(m.locks, claim{tx: x, key: w.Key, mode: toWrite})
		}
	}
	return m
}

func (m *model) ask(x msg.Msg) []part.Send {
	g, is := m.reg(x.Tx)
	_, isUser := m.stamp(x.Tx)
	refuse := func(why api.Errno) []part.Send {
		return tells(msg.Msg{Kind: msg.Refuse, Tx: x.Tx, No: x.No, Why: uint8(why)})
	}
	switch {
	case m.item(x.Key) == nil:
		return refuse(api.ErrNone)
	case m.work(x.Tx) != nil:
		return refuse(api.ErrState)
	case x.Reg != api.Reg{} && (!is || g != x.Reg):
		return refuse(api.ErrGone)
	case !isUser && len(m.users) == mostUsers:
		return refuse(api.ErrMany)
	}
	if !is {
		m.count++
		m.known = append(m.known, named{x.Tx, api.Reg{Boot: m.boot, N: m.count}})
		m.users = append(m.users, api.Stamp{Time: x.Time, Tx: x.Tx})
	}
	wait := claim{x.Tx, x.Key, x.Mode, x.No}
	if modeOf(m.locks, x.Tx, x.Key) >= x.Mode {
		return tells(m.grant(wait))
	}
	wait.mode = max(wait.mode, modeOf(m.waits, x.Tx, x.Key))
	m.waits = append(without(m.waits, x.Tx, x.Key), wait)
	return append(m.wound(wait), m.goOn()...)
}

// wound aborts those that have to give way to a wait.
func (m *model) wound(wait claim) []part.Send {
	var list []api.Tx
	for _, c := range m.locks {
		if c.key == wait.key && !together(c, wait) && m.work(c.tx) == nil && m.ages(wait.tx, c.tx) < 0 {
			list = append(list, c.tx)
		}
	}
	slices.SortFunc(list, m.ages)
	var out []part.Send
	for _, x := range list {
		g, _ := m.reg(x)
		out = append(out, tells(msg.Msg{Kind: msg.Wound, Tx: x, Reg: g})...)
		m.drop(x)
	}
	return out
}

// goOn goes over all waits of all keys, and tells those that are granted.
func (m *model) goOn() []part.Send {
	slices.SortFunc(m.waits, func(a, b claim) int {
		return cmp.Or(bytes.Compare(a.key[:], b.key[:]), m.ages(a.tx, b.tx))
	})
	var out []part.Send
	var left []claim
	for _, wait := range m.waits {
		// Those that are left stand ahead of it: the ones of its key are older.
		inTheWay := func(c claim) bool { return c.key == wait.key && !together(c, wait) }
		if slices.ContainsFunc(m.locks, inTheWay) || slices.ContainsFunc(left, inTheWay) {
			left = append(left, wait)
			continue
		}
		wait.mode = max(wait.mode, modeOf(m.locks, wait.tx, wait.key))
		m.locks = append(without(m.locks, wait.tx, wait.key), wait)
		out = append(out, tells(m.grant(wait))...)
	}
	m.waits = left
	return out
}

func (m *model) grant(c claim) msg.Msg {
	g, _ := m.reg(c.tx)
	return msg.Msg{Kind: msg.Grant, Tx: c.tx, Reg: g, Key: c.key, Mode: c.mode, No: c.no, Item: *m.item(c.key)}
}

func (m *model) prepare(x msg.Msg) []part.Send {
	votes := func(yes uint8) []part.Send {
		return tells(msg.Msg{Kind: msg.Vote, Tx: x.Tx, Reg: x.Reg, Yes: yes})
	}
	if w := m.work(x.Tx); w != nil {
		if w.reg == x.Reg {
			return votes(voteYes)
		}
		return votes(voteNo)
	}
	if g, is := m.reg(x.Tx); !is || g != x.Reg {
		return votes(voteNo)
	}
	yes := m.choice(x)
	switch yes {
	case voteYes:
		m.staged = append(m.staged, work{x.Tx, x.Reg, x.Writes})
		m.known = slices.DeleteFunc(m.known, func(y named) bool { return y.tx == x.Tx })
		m.locks = slices.DeleteFunc(m.locks, func(c claim) bool { return c.tx == x.Tx && c.mode == toRead })
	default:
		m.drop(x.Tx)
	}
	return append(votes(yes), m.goOn()...)
}

// choice is what is voted on one that is known by the reg of a Prepare.
func (m *model) choice(x msg.Msg) uint8 {
	if modeOf(m.waits, x.Tx, api.Key{}) != 0 {
		return voteNo
	}
	for _, w := range x.Writes {
		if modeOf(m.locks, x.Tx, w.Key) != toWrite {
			return voteNo
		}
	}
	if len(x.Writes) == 0 {
		return voteRead
	}
	for _, w := range x.Writes {
		if m.item(w.Key).Version >= w.Item.Version {
			return voteNo
		}
	}
	if !m.force() {
		return voteNo
	}
	return voteYes
}

func (m *model) decide(x msg.Msg) []part.Send {
	w := m.work(x.Tx)
	_, is := m.reg(x.Tx)
	switch {
	case x.Yes == toCommit && w == nil:
		return tells(msg.Msg{Kind: msg.Ack, Tx: x.Tx})
	case x.Yes == toCommit:
		if !m.force() {
			return nil
		}
		for _, y := range w.writes {
			if i := m.item(y.Key); i.Version < y.Item.Version {
				*i = y.Item
			}
		}
		m.drop(x.Tx)
		return append(tells(msg.Msg{Kind: msg.Ack, Tx: x.Tx}), m.goOn()...)
	case w != nil && m.off || w == nil && !is:
		return nil
	}
	m.drop(x.Tx)
	return m.goOn()
}

func (m *model) fresh(x msg.Msg) []part.Send {
	i := m.item(x.Key)
	if i == nil || i.Version == x.Item.Version && *i != x.Item {
		return nil
	}
	if i.Version < x.Item.Version {
		if !m.force() {
			return nil
		}
		*i = x.Item
	}
	return tells(msg.Msg{Kind: msg.Kept, Tx: x.Tx, Key: x.Key})
}

func (m *model) late(x api.Tx) []part.Send {
	if m.work(x) != nil {
		return tells(msg.Msg{Kind: msg.Inquire, Tx: x})
	}
	g, is := m.reg(x)
	if !is {
		return nil
	}
	m.drop(x)
	return append(tells(msg.Msg{Kind: msg.Wound, Tx: x, Reg: g}), m.goOn()...)
}

// force tells whether a record is forced.
func (m *model) force() bool {
	m.off = m.off || m.armed
	return !m.off
}

// drop takes all away that is there of a transaction.
func (m *model) drop(x api.Tx) {
	m.staged = slices.DeleteFunc(m.staged, func(w work) bool { return w.tx == x })
	m.known = slices.DeleteFunc(m.known, func(y named) bool { return y.tx == x })
	m.users = slices.DeleteFunc(m.users, func(s api.Stamp) bool { return s.Tx == x })
	m.locks = slices.DeleteFunc(m.locks, func(c claim) bool { return c.tx == x })
	m.waits = slices.DeleteFunc(m.waits, func(c claim) bool { return c.tx == x })
}

// item is where a key's item stands, if there is one.
func (m *model) item(k api.Key) *api.Item {
	for n := range m.items {
		if m.items[n].Key == k {
			return &m.items[n].Item
		}
	}
	return nil
}

// work is what is staged of a transaction, if it is.
func (m *model) work(x api.Tx) *work {
	for n := range m.staged {
		if m.staged[n].tx == x {
			return &m.staged[n]
		}
	}
	return nil
}

func (m *model) reg(x api.Tx) (api.Reg, bool) {
	for _, y := range m.known {
		if y.tx == x {
			return y.reg, true
		}
	}
	return api.Reg{}, false
}

func (m *model) stamp(x api.Tx) (api.Stamp, bool) {
	for _, s := range m.users {
		if s.Tx == x {
			return s, true
		}
	}
	return api.Stamp{}, false
}

func (m *model) ages(a, b api.Tx) int {
	x, _ := m.stamp(a)
	y, _ := m.stamp(b)
	return cmp.Or(cmp.Compare(x.Time, y.Time), byName(a, b))
}

func tells(m msg.Msg) []part.Send { return []part.Send{{To: m.Tx.Node, Msg: m}} }

func together(a, b claim) bool { return a.tx == b.tx || a.mode == toRead && b.mode == toRead }

// modeOf is the mode of a transaction's claim on a key, or of any one of it, if there is no key.
func modeOf(list []claim, x api.Tx, k api.Key) uint8 {
	for _, c := range list {
		if c.tx == x && (c.key == k || k == api.Key{}) {
			return c.mode
		}
	}
	return 0
}

func without(list []claim, x api.Tx, k api.Key) []claim {
	return slices.DeleteFunc(list, func(c claim) bool { return c.tx == x && c.key == k })
}

func byName(a, b api.Tx) int {
	return cmp.Or(cmp.Compare(a.Node, b.Node), cmp.Compare(a.Boot, b.Boot), cmp.Compare(a.Num, b.Num))
}

// chance is a row of numbers, the same each time.
type chance uint64

func (x *chance) below(n int) int {
	*x ^= *x << 13
	*x ^= *x >> 7
	*x ^= *x << 17
	return int(uint64(*x>>11) % uint64(n))
}
