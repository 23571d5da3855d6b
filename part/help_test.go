package part_test

import (
	"reflect"
	"slices"
	"strings"
	"testing"

	"parrel/api"
	"parrel/disk"
	"parrel/msg"
	"parrel/part"
	"parrel/store"
)

// The limits, the modes and what is told by Yes, as the document tells them.
const (
	most      = 1<<31 - 1
	mostRoom  = 1 << 16
	mostNodes = 8
	mostUsers = 64
	mostKeys  = 64

	toRead  = 1
	toWrite = 2

	voteYes  = 1
	voteRead = 2
	voteNo   = 3

	toCommit = 1
	toAbort  = 2
)

func conf(epoch uint32) api.Config {
	c := api.Config{Epoch: epoch, R: 2, W: 2}
	copy(c.Votes[:], []uint8{1, 1, 1})
	return c
}

func of(version uint32, value string) api.Item {
	return api.Item{Version: version, Value: value, Conf: conf(1)}
}

func key(s string) api.Key {
	var k api.Key
	copy(k[:], s)
	return k
}

// writes are of keys of a letter each, which have to rise.
func writes(keys string, version uint32, value string) []api.Write {
	var out []api.Write
	for n := range len(keys) {
		out = append(out, api.Write{Key: key(keys[n : n+1]), Item: of(version, value)})
	}
	return out
}

// many are so many items, none of whose keys is a letter's.
func many(count int, version uint32, value string) []api.Write {
	var out []api.Write
	for n := range count {
		out = append(out, api.Write{Key: manyKey(n), Item: of(version, value)})
	}
	return out
}

func manyKey(n int) api.Key { return key("k" + string([]byte{byte(n + 1)})) }

func long(count int) string { return strings.Repeat("v", count) }

// tx is a transaction of some number; those of numbers that follow one another were begun at several nodes.
func tx(num uint32) api.Tx { return api.Tx{Node: uint8(num % mostNodes), Boot: 1, Num: num} }

// reg is one of the first boot.
func reg(n uint32) api.Reg { return api.Reg{Boot: 1, N: n} }

// The messages that come, of the transaction of a number, which is as old as that tells.

func ask(num uint32, k string, mode uint8, no uint32) msg.Msg {
	return msg.Msg{Kind: msg.Ask, Tx: tx(num), Time: num, Key: key(k), Mode: mode, No: no}
}

func askBy(g api.Reg, num uint32, k string, mode uint8, no uint32) msg.Msg {
	m := ask(num, k, mode, no)
	m.Reg = g
	return m
}

func prepare(num uint32, g api.Reg, l []api.Write) msg.Msg {
	return msg.Msg{Kind: msg.Prepare, Tx: tx(num), Reg: g, Writes: l}
}

func decide(num uint32, yes uint8) msg.Msg {
	return msg.Msg{Kind: msg.Decide, Tx: tx(num), Yes: yes}
}

func fresh(num uint32, k string, i api.Item) msg.Msg {
	return msg.Msg{Kind: msg.Fresh, Tx: tx(num), Key: key(k), Item: i}
}

// What is sent, of the transaction of a number, to its node.

func send(num uint32, m msg.Msg) part.Send {
	m.Tx = tx(num)
	return part.Send{To: uint8(num % mostNodes), Msg: m}
}

func grant(num uint32, g api.Reg, k string, mode uint8, no uint32, i api.Item) part.Send {
	return send(num, msg.Msg{Kind: msg.Grant, Reg: g, Key: key(k), Mode: mode, No: no, Item: i})
}

func refuse(num, no uint32, why api.Errno) part.Send {
	return send(num, msg.Msg{Kind: msg.Refuse, No: no, Why: uint8(why)})
}

func wound(num uint32, g api.Reg) part.Send { return send(num, msg.Msg{Kind: msg.Wound, Reg: g}) }

func vote(num uint32, g api.Reg, yes uint8) part.Send {
	return send(num, msg.Msg{Kind: msg.Vote, Reg: g, Yes: yes})
}

func ack(num uint32) part.Send { return send(num, msg.Msg{Kind: msg.Ack}) }

func inquire(num uint32) part.Send { return send(num, msg.Msg{Kind: msg.Inquire}) }

func kept(num uint32, k string) part.Send {
	return send(num, msg.Msg{Kind: msg.Kept, Key: key(k)})
}

func same(a, b part.Send) bool { return a.To == b.To && msg.Same(a.Msg, b.Msg) }

// sent asks for just those messages, in this order, each of which may be.
func sent(t *testing.T, what string, got []part.Send, want ...part.Send) {
	t.Helper()
	if !slices.EqualFunc(got, want, same) {
		t.Fatalf("%s sends\n%v; want\n%v", what, got, want)
	}
	for _, x := range got {
		// A Vote has the reg of its Prepare, which may be zero, though a Vote's may not.
		if !msg.May(x.Msg) && (x.Msg.Kind != msg.Vote || x.Msg.Reg != api.Reg{}) {
			t.Fatalf("%s sends %v, which may not be", what, x)
		}
	}
}

// place is a part, and what it stands on.
type place struct {
	d     *disk.Disk
	first []api.Write
	s     *store.Store
	p     *part.Part
}

// placeOf is a part of a store that was opened for the first time.
func placeOf(t *testing.T, first []api.Write) *place {
	t.Helper()
	return placeIn(t, mostRoom, first)
}

func placeIn(t *testing.T, room int, first []api.Write) *place {
	t.Helper()
	d, why := disk.New(room)
	must(t, "New", why, api.OK)
	x := &place{d: d, first: first}
	x.open(t)
	return x
}

// open opens the disk's store, and makes a part of it.
func (x *place) open(t *testing.T) {
	t.Helper()
	s, why := store.Open(x.d, x.first)
	must(t, "Open", why, api.OK)
	x.s, x.p = s, part.New(s)
}

// again is what a loss of power, and a start, make of a place.
func (x *place) again(t *testing.T) {
	t.Helper()
	if x.d.On() {
		must(t, "Fail", x.d.Fail(), api.OK)
	}
	must(t, "Start", x.d.Start(0, false, nil), api.OK)
	x.open(t)
}

// gets is an ask that is granted at once, by a reg of the first boot, and does nothing else.
func (x *place) gets(t *testing.T, num, n uint32, keys string, mode uint8) {
	t.Helper()
	for _, k := range strings.Split(keys, "") {
		i, _ := x.s.Item(key(k))
		sent(t, "Ask of "+k, x.p.Ask(ask(num, k, mode, num)), grant(num, reg(n), k, mode, num, i))
	}
}

// waits is an ask that is not granted, and wounds nobody.
func (x *place) waits(t *testing.T, num uint32, k string, mode uint8) {
	t.Helper()
	sent(t, "Ask of "+k, x.p.Ask(ask(num, k, mode, num)))
}

// stages is a Prepare to which the answer is yes, and nothing else comes of it.
func (x *place) stages(t *testing.T, num, n uint32, l []api.Write) {
	t.Helper()
	sent(t, "Prepare", x.p.Prepare(prepare(num, reg(n), l)), vote(num, reg(n), voteYes))
}

// item is what the store has of a key.
func (x *place) item(k string) api.Item {
	i, _ := x.s.Item(key(k))
	return i
}

// knows asks for just those known ones, as pairs of the numbers of a transaction and of its reg, rising.
func (x *place) knows(t *testing.T, want ...[2]uint32) {
	t.Helper()
	var list []api.Tx
	for _, pair := range want {
		list = append(list, tx(pair[0]))
		if g, is := x.p.Reg(tx(pair[0])); !is || g != (api.Reg{Boot: x.s.Boot(), N: pair[1]}) {
			t.Fatalf("%d has the reg %v, %v; want %d", pair[0], g, is, pair[1])
		}
	}
	if got := x.p.Known(); !slices.Equal(got, list) {
		t.Fatalf("Known: %v; want %v", got, list)
	}
}

// uses asks for just those users, rising by their names.
func (x *place) uses(t *testing.T, nums ...uint32) {
	t.Helper()
	if got := x.p.Users(); !slices.Equal(got, txs(nums...)) {
		t.Fatalf("Users: %v; want %v", got, txs(nums...))
	}
}

// staged asks for just those staged ones, rising by their names.
func (x *place) staged(t *testing.T, nums ...uint32) {
	t.Helper()
	if got := x.s.Staged(); !slices.Equal(got, txs(nums...)) {
		t.Fatalf("Staged: %v; want %v", got, txs(nums...))
	}
}

// holds asks for a transaction's locks, of the keys a to z: as a list of keys to read, and one to write.
func (x *place) holds(t *testing.T, num uint32, reads, written string) {
	t.Helper()
	for c := byte('a'); c <= 'z'; c++ {
		var want uint8
		if strings.IndexByte(reads, c) >= 0 {
			want = toRead
		}
		if strings.IndexByte(written, c) >= 0 {
			want = toWrite
		}
		if got := x.p.Holds(tx(num), api.Key{c}); got != want {
			t.Fatalf("%d holds %c in the mode %d; want %d", num, c, got, want)
		}
	}
}

// gone asks that nothing is left of a transaction.
func (x *place) gone(t *testing.T, num uint32) {
	t.Helper()
	g, is := x.p.Reg(tx(num))
	if is || g != (api.Reg{}) || slices.Contains(x.p.Known(), tx(num)) || slices.Contains(x.p.Users(), tx(num)) || slices.Contains(x.s.Staged(), tx(num)) {
		t.Fatalf("%d has the reg %v, %v; known are %v, users %v, staged %v", num, g, is, x.p.Known(), x.p.Users(), x.s.Staged())
	}
	x.holds(t, num, "", "")
}

// look is all that can be told of a part, its store and its disk.
type look struct {
	known, users, staged []api.Tx
	regs                 []api.Reg
	holds                []uint8
	items                []api.Write
	boot                 uint32
	text                 string
	on                   bool
}

func (x *place) seen() look {
	b, _ := x.d.Read()
	l := look{known: x.p.Known(), users: x.p.Users(), staged: x.s.Staged(), items: x.s.Items(), boot: x.s.Boot(), text: string(b), on: x.d.On()}
	for _, y := range l.known {
		g, _ := x.p.Reg(y)
		l.regs = append(l.regs, g)
	}
	for _, y := range l.users {
		for _, i := range l.items {
			l.holds = append(l.holds, x.p.Holds(y, i.Key))
		}
	}
	return l
}

// stays asks that nothing turned.
func (x *place) stays(t *testing.T, what string, was look) {
	t.Helper()
	if got := x.seen(); !reflect.DeepEqual(got, was) {
		t.Fatalf("%s: it is\n%+v; it was\n%+v", what, got, was)
	}
}

func txs(nums ...uint32) []api.Tx {
	var out []api.Tx
	for _, num := range nums {
		out = append(out, tx(num))
	}
	return out
}

// must is an error that has to be that one.
func must(t *testing.T, what string, got, want api.Errno) {
	t.Helper()
	if got != want {
		t.Fatalf("%s: %v; want %v", what, got, want)
	}
}

// badMessages are ones of a kind that may not be, made of one that may.
func badMessages(good msg.Msg) []msg.Msg {
	var out []msg.Msg
	for _, turn := range []func(m *msg.Msg){
		func(m *msg.Msg) { m.Tx = api.Tx{} },
		func(m *msg.Msg) { m.Tx.Node = mostNodes },
		func(m *msg.Msg) { m.Tx.Num = most + 1 },
		func(m *msg.Msg) { m.Tx.Boot = 0 },
		func(m *msg.Msg) { m.Time = most + 1 },
		func(m *msg.Msg) { m.Reg = api.Reg{Boot: 1} },
		func(m *msg.Msg) { m.Key = api.Key{0, 'a'} },
		func(m *msg.Msg) { m.Mode += 3 },
		func(m *msg.Msg) { m.No = most + 1 },
		func(m *msg.Msg) { m.Why = 1 },
		func(m *msg.Msg) { m.Yes += 3 },
		func(m *msg.Msg) { m.Item.Version = most + 1 },
		func(m *msg.Msg) { m.Writes = writes("ba", 9, "") },
		func(m *msg.Msg) { m.Writes = writes("a", most+1, "") },
		func(m *msg.Msg) { m.Writes = many(17, 9, "") },
	} {
		m := good
		turn(&m)
		if !msg.May(m) {
			out = append(out, m)
		}
	}
	return out
}

// calls are a part's calls that take messages, by the kinds that they are for.
func calls(p *part.Part) map[uint8]func(m msg.Msg) []part.Send {
	return map[uint8]func(m msg.Msg) []part.Send{msg.Ask: p.Ask, msg.Prepare: p.Prepare, msg.Decide: p.Decide, msg.Fresh: p.Fresh}
}
