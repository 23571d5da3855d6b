package coord

import (
	"slices"

	"parrel/api"
	"parrel/bits"
	"parrel/ids"
	"parrel/msg"
	"parrel/part"
)

// What a member has voted: the numbers by which a Vote tells it, behind that of none.
const (
	voteNone = iota
	voteYes  // it is staged there
	voteRead // it writes nothing there, and was forgotten
	voteNo
)

// What a Decide tells.
const (
	toCommit = iota + 1
	toAbort
)

// lastLate is the Late at which a transaction is not asked anew.
const lastLate = 9

// mostSet is the set of all nodes: any greater number has a node in it that can not be.
const mostSet = 1<<api.MaxNodes - 1

// asking is a transaction that is asked.
type asking struct {
	tx      api.Tx
	members [api.MaxNodes]voter // by their nodes
	writes  []api.Write
	missing []uint64
	lates   int
}

// voter is what a node has of a transaction; one without a reg is no member of it.
type voter struct {
	reg    api.Reg
	writes []api.Write
	vote   uint8
}

func newAsking(t api.Tx, members []Member, writes []api.Write, missing []uint64) *asking {
	x := &asking{tx: t, writes: slices.Clone(writes), missing: slices.Clone(missing)}
	for _, y := range members {
		x.members[y.Node] = voter{reg: y.Reg, writes: slices.Clone(y.Writes)}
	}
	return x
}

// ask is a Prepare to each member that has not voted, rising.
func (x *asking) ask() []part.Send {
	var l []part.Send
	for _, n := range bits.List(x.voted(voteNone)) {
		y := x.members[n]
		m := msg.Msg{Kind: msg.Prepare, Tx: x.tx, Reg: y.reg, Writes: slices.Clone(y.writes)}
		l = append(l, part.Send{To: uint8(n), Msg: m})
	}
	return l
}

// take takes a node's vote, and tells whether it counts: a member's first one, by the reg that it is known by there. No vote has the reg of who is no member.
func (x *asking) take(from uint8, m msg.Msg) bool {
	if from >= api.MaxNodes || x.members[from].reg != m.Reg || x.members[from].vote != voteNone {
		return false
	}
	x.members[from].vote = m.Yes
	return true
}

// voted is the set of the members that have voted so.
func (x *asking) voted(vote uint8) uint64 {
	var set uint64
	for n, y := range x.members {
		if y.reg != (api.Reg{}) && y.vote == vote {
			set = bits.With(set, n)
		}
	}
	return set
}

// membersMay tells whether members may be, whatever is to be written: they rise.
func membersMay(members []Member) bool {
	for n, y := range members {
		if y.Node >= api.MaxNodes || !ids.RegMay(y.Reg) || !msg.WritesMay(y.Writes) {
			return false
		}
		if n > 0 && y.Node <= members[n-1].Node {
			return false
		}
	}
	return true
}

// writesMay tells whether writes may be that are to come to members, and to be missing at sets of nodes: there are some just if a member has one.
func writesMay(members []Member, writes []api.Write, missing []uint64) bool {
	has := func(y Member) bool { return len(y.Writes) > 0 }
	tooGreat := func(set uint64) bool { return set > mostSet }
	return msg.WritesMay(writes) && len(missing) == len(writes) && !slices.ContainsFunc(missing, tooGreat) &&
		slices.ContainsFunc(members, has) == (len(writes) > 0)
}
