package coord_test

import (
	"reflect"
	"slices"
	"strings"
	"testing"

	"parrel/api"
	"parrel/coord"
	"parrel/disk"
	"parrel/msg"
	"parrel/part"
	"parrel/store"
)

// The limits, and what is told by Yes, as the document tells them.
const (
	most      = 1<<31 - 1
	mostRoom  = 1 << 16
	mostNodes = 8
	mostSet   = 255
	lastLate  = 9

	voteYes  = 1
	voteRead = 2
	voteNo   = 3

	toCommit = 1
	toAbort  = 2
)

// self is the node whose coordinators are tried.
const self = 1

func conf(epoch uint32) api.Config {
	c := api.Config{Epoch: epoch, R: 2, W: 2}
	copy(c.Votes[:], []uint8{1, 1, 1})
	return c
}

func of(version uint32, value string) api.Item {
	return api.Item{Version: version, Value: value, Conf: conf(1)}
}

func key(s string) api.Key {
	var k api.Key
	copy(k[:], s)
	return k
}

// writes are of keys of a letter each, which have to rise: what a value is hangs on its key.
func writes(keys string) []api.Write {
	var out []api.Write
	for n := range len(keys) {
		k := keys[n : n+1]
		out = append(out, api.Write{Key: key(k), Item: of(uint32(k[0]), "v"+k)})
	}
	return out
}

// many are so many writes, with long values.
func many(count int) []api.Write {
	var out []api.Write
	for n := range count {
		out = append(out, api.Write{Key: key("k" + string([]byte{byte(n + 1)})), Item: of(1, strings.Repeat("v", api.MaxValue))})
	}
	return out
}

// tx is a transaction of the coordinators' node.
func tx(num uint32) api.Tx { return api.Tx{Node: self, Boot: 1, Num: num} }

func txs(nums ...uint32) []api.Tx {
	var out []api.Tx
	for _, num := range nums {
		out = append(out, tx(num))
	}
	return out
}

// reg is the one by which a node knows all transactions.
func reg(node uint8) api.Reg { return api.Reg{Boot: 3, N: uint32(node) + 1} }

// members are of those nodes, each with writes of keys of a letter each, which are given as, say, 0:ab 3: 5:c.
func members(text string) []coord.Member {
	var out []coord.Member
	for _, word := range strings.Fields(text) {
		node := word[0] - '0'
		out = append(out, coord.Member{Node: node, Reg: reg(node), Writes: writes(word[2:])})
	}
	return out
}

// sets are of no node, as many as there are keys.
func sets(keys string) []uint64 { return make([]uint64, len(keys)) }

// The messages that come, of the transaction of a number.

func vote(num uint32, from, yes uint8) msg.Msg {
	return msg.Msg{Kind: msg.Vote, Tx: tx(num), Reg: reg(from), Yes: yes}
}

func ack(num uint32) msg.Msg { return msg.Msg{Kind: msg.Ack, Tx: tx(num)} }

func kept(num uint32, k string) msg.Msg { return msg.Msg{Kind: msg.Kept, Tx: tx(num), Key: key(k)} }

func inquire(num uint32) msg.Msg { return msg.Msg{Kind: msg.Inquire, Tx: tx(num)} }

// What is sent, of the transaction of a number.

func prepare(num uint32, to uint8, keys string) part.Send {
	return part.Send{To: to, Msg: msg.Msg{Kind: msg.Prepare, Tx: tx(num), Reg: reg(to), Writes: writes(keys)}}
}

func decide(num uint32, to, yes uint8) part.Send {
	return part.Send{To: to, Msg: msg.Msg{Kind: msg.Decide, Tx: tx(num), Yes: yes}}
}

func fresh(num uint32, to uint8, k string) part.Send {
	return part.Send{To: to, Msg: msg.Msg{Kind: msg.Fresh, Tx: tx(num), Key: key(k), Item: writes(k)[0].Item}}
}

// to is a Decide to each of those nodes.
func to(num uint32, yes uint8, nodes ...uint8) []part.Send {
	var out []part.Send
	for _, n := range nodes {
		out = append(out, decide(num, n, yes))
	}
	return out
}

func same(a, b part.Send) bool { return a.To == b.To && msg.Same(a.Msg, b.Msg) }

// sent asks for just those messages, in this order, each of which may be.
func sent(t *testing.T, what string, got []part.Send, want ...part.Send) {
	t.Helper()
	if !slices.EqualFunc(got, want, same) {
		t.Fatalf("%s sends\n%v; want\n%v", what, got, want)
	}
	for _, x := range got {
		if !msg.May(x.Msg) {
			t.Fatalf("%s sends %v, which may not be", what, x)
		}
	}
}

// What a call says of what became of a transaction.

func committed(num uint32) []coord.Done { return []coord.Done{{Tx: tx(num), Committed: true}} }

func aborted(num uint32) []coord.Done { return []coord.Done{{Tx: tx(num)}} }

func became(t *testing.T, what string, got, want []coord.Done) {
	t.Helper()
	if !slices.Equal(got, want) {
		t.Fatalf("%s: done is %v; want %v", what, got, want)
	}
}

// must is an error that has to be that one.
func must(t *testing.T, what string, got, want api.Errno) {
	t.Helper()
	if got != want {
		t.Fatalf("%s: %v; want %v", what, got, want)
	}
}

// place is a coordinator, and what it stands on.
type place struct {
	d *disk.Disk
	s *store.Store
	c *coord.Coord
}

// placeOf is a coordinator of a store that was opened for the first time.
func placeOf(t *testing.T) *place {
	t.Helper()
	return placeIn(t, mostRoom)
}

func placeIn(t *testing.T, room int) *place {
	t.Helper()
	d, why := disk.New(room)
	must(t, "New", why, api.OK)
	x := &place{d: d}
	x.open(t)
	return x
}

// open opens the disk's store, and makes a coordinator of it.
func (x *place) open(t *testing.T) {
	t.Helper()
	s, why := store.Open(x.d, nil)
	must(t, "Open", why, api.OK)
	x.s, x.c = s, coord.New(self, s)
}

// again is what a loss of power, and a start, make of a place; so many bytes stay of what was not forced.
func (x *place) again(t *testing.T, keep int) {
	t.Helper()
	if x.d.On() {
		must(t, "Fail", x.d.Fail(), api.OK)
	}
	must(t, "Start", x.d.Start(keep, false, nil), api.OK)
	x.open(t)
}

// starts is a Start that asks all its members.
func (x *place) starts(t *testing.T, num uint32, who, keys string, missing ...uint64) {
	t.Helper()
	if missing == nil {
		missing = sets(keys)
	}
	list, done, why := x.c.Start(tx(num), members(who), writes(keys), missing)
	must(t, "Start", why, api.OK)
	became(t, "Start", done, nil)
	var want []part.Send
	for _, word := range strings.Fields(who) {
		want = append(want, prepare(num, word[0]-'0', word[2:]))
	}
	sent(t, "Start", list, want...)
}

// votes is a vote of each of those nodes, of which nothing comes.
func (x *place) votes(t *testing.T, num uint32, yes uint8, nodes ...uint8) {
	t.Helper()
	for _, n := range nodes {
		list, done := x.c.Vote(n, vote(num, n, yes))
		sent(t, "Vote", list)
		became(t, "Vote", done, nil)
	}
}

// ends is a vote that is the last one that was asked for.
func (x *place) ends(t *testing.T, num uint32, from, yes uint8, became1 []coord.Done, want ...part.Send) {
	t.Helper()
	list, done := x.c.Vote(from, vote(num, from, yes))
	sent(t, "Vote", list, want...)
	became(t, "Vote", done, became1)
}

// tells is a Late of one that is decided.
func (x *place) tells(t *testing.T, num uint32, want ...part.Send) {
	t.Helper()
	list, done := x.c.Late(tx(num))
	sent(t, "Late", list, want...)
	became(t, "Late", done, nil)
}

// decides is a transaction of a number that is decided: with those members and writes.
func (x *place) decides(t *testing.T, num uint32, who, keys string, missing ...uint64) {
	t.Helper()
	x.starts(t, num, who, keys, missing...)
	for _, y := range members(who) {
		x.c.Vote(y.Node, vote(num, y.Node, voteYes))
	}
	if !slices.Contains(x.c.Decided(), tx(num)) {
		t.Fatalf("%d is not decided", num)
	}
}

// acks is an Ack of each of those nodes.
func (x *place) acks(t *testing.T, num uint32, nodes ...uint8) {
	t.Helper()
	for _, n := range nodes {
		sent(t, "Ack", x.c.Ack(n, ack(num)))
	}
}

// keeps is a Kept of a key of each of those nodes.
func (x *place) keeps(t *testing.T, num uint32, k string, nodes ...uint8) {
	t.Helper()
	for _, n := range nodes {
		sent(t, "Kept", x.c.Kept(n, kept(num, k)))
	}
}

// has asks for just those that are asked, and those that are decided, here and in the store.
func (x *place) has(t *testing.T, asked, decided []uint32) {
	t.Helper()
	var kept []api.Tx
	for _, y := range x.s.Decisions() {
		kept = append(kept, y.Tx)
	}
	if !slices.Equal(x.c.Asked(), txs(asked...)) || !slices.Equal(x.c.Decided(), txs(decided...)) || !slices.Equal(kept, txs(decided...)) {
		t.Fatalf("asked are %v, decided %v, in the store %v; want %v, %v", x.c.Asked(), x.c.Decided(), kept, asked, decided)
	}
}

// look is all that can be told of a coordinator, its store and its disk without turning it.
type look struct {
	asked, decided []api.Tx
	decisions      []store.Decision
	tells          [][]part.Send
	text           string
	on             bool
}

func (x *place) seen() look {
	b, _ := x.d.Read()
	l := look{asked: x.c.Asked(), decided: x.c.Decided(), decisions: x.s.Decisions(), text: string(b), on: x.d.On()}
	for _, y := range l.decided {
		list, _ := x.c.Late(y)
		l.tells = append(l.tells, list)
	}
	return l
}

// stays asks that nothing turned.
func (x *place) stays(t *testing.T, what string, was look) {
	t.Helper()
	if got := x.seen(); !reflect.DeepEqual(got, was) {
		t.Fatalf("%s: it is\n%+v; it was\n%+v", what, got, was)
	}
}

// calls are a coordinator's calls that take messages, by the kinds that they are for.
func calls(c *coord.Coord) map[uint8]func(from uint8, m msg.Msg) ([]part.Send, []coord.Done) {
	alone := func(call func(from uint8, m msg.Msg) []part.Send) func(from uint8, m msg.Msg) ([]part.Send, []coord.Done) {
		return func(from uint8, m msg.Msg) ([]part.Send, []coord.Done) { return call(from, m), nil }
	}
	return map[uint8]func(from uint8, m msg.Msg) ([]part.Send, []coord.Done){
		msg.Vote: c.Vote, msg.Ack: alone(c.Ack), msg.Kept: alone(c.Kept), msg.Inquire: alone(c.Inquire),
	}
}

// badMessages are ones of a kind that may not be, or of another node's transaction, made of one that may.
func badMessages(good msg.Msg) []msg.Msg {
	var out []msg.Msg
	for _, turn := range []func(m *msg.Msg){
		func(m *msg.Msg) { m.Tx.Node = self + 1 },
		func(m *msg.Msg) { m.Tx.Node = 0 },
		func(m *msg.Msg) { m.Tx.Node = mostNodes },
		func(m *msg.Msg) { m.Time = 1 },
		func(m *msg.Msg) { m.Reg = api.Reg{} },
		func(m *msg.Msg) { m.Reg.N = most + 1 },
		func(m *msg.Msg) { m.Key = api.Key{0, 'a'} },
		func(m *msg.Msg) { m.Key = api.Key{} },
		func(m *msg.Msg) { m.Mode = 1 },
		func(m *msg.Msg) { m.No = 1 },
		func(m *msg.Msg) { m.Why = 1 },
		func(m *msg.Msg) { m.Yes += 3 },
		func(m *msg.Msg) { m.Yes = 0 },
		func(m *msg.Msg) { m.Item = of(1, "") },
		func(m *msg.Msg) { m.Writes = writes("a") },
	} {
		m := good
		turn(&m)
		if !msg.May(m) || m.Tx.Node != self {
			out = append(out, m)
		}
	}
	return out
}
