package net_test

import (
	"bytes"
	"math"
	"slices"
	"sort"
	"strconv"
	"testing"

	"parrel/api"
	"parrel/net"
)

// The limits, as the document tells them.
const (
	mostNodes = 8
	mostBytes = 4096
	mostWires = 256
)

// fresh is a network of some room.
func fresh(t *testing.T, room int) *net.Net {
	t.Helper()
	n, why := net.New(room)
	if n == nil || why != api.OK {
		t.Fatalf("New(%d): %v, %v", room, n, why)
	}
	return n
}

// wire is a wire with a text.
func wire(from, to uint8, s string) net.Wire { return net.Wire{From: from, To: to, Bytes: []byte(s)} }

// must is an error that has to be that one.
func must(t *testing.T, what string, got, want api.Errno) {
	t.Helper()
	if got != want {
		t.Fatalf("%s: %v; want %v", what, got, want)
	}
}

// filled is a network with a wire for each text, the first from the node 0 to the node 1, and so on.
func filled(t *testing.T, room int, texts ...string) *net.Net {
	t.Helper()
	n := fresh(t, room)
	for i, s := range texts {
		must(t, "Send", n.Send(wire(uint8(i%mostNodes), uint8((i+1)%mostNodes), s)), api.OK)
	}
	return n
}

// told is a wire that can be compared.
type told struct {
	from, to uint8
	text     string
}

func tell(w net.Wire) told { return told{w.From, w.To, string(w.Bytes)} }

// seen is all that can be told of a network.
type seen struct {
	wires []told
	to    [mostNodes][]int
	lost  int
}

func look(t *testing.T, n *net.Net) seen {
	t.Helper()
	s := seen{lost: n.Lost()}
	for i := range n.Len() {
		w, why := n.At(i)
		must(t, "At", why, api.OK)
		s.wires = append(s.wires, tell(w))
	}
	for node := range s.to {
		s.to[node] = n.To(uint8(node))
	}
	return s
}

func (s seen) same(o seen) bool {
	for node := range s.to {
		if !slices.Equal(s.to[node], o.to[node]) {
			return false
		}
	}
	return slices.Equal(s.wires, o.wires) && s.lost == o.lost
}

// has tells of a network that has other texts, in another order, or lost others.
func has(t *testing.T, n *net.Net, lost int, texts ...string) {
	t.Helper()
	var got []string
	for _, w := range look(t, n).wires {
		got = append(got, w.text)
	}
	if !slices.Equal(got, texts) || n.Len() != len(texts) {
		t.Fatalf("it has %q (%d); want %q", got, n.Len(), texts)
	}
	if n.Lost() != lost {
		t.Fatalf("it lost %d; want %d", n.Lost(), lost)
	}
}

// P8.1

func TestNew(t *testing.T) {
	for _, room := range []int{math.MinInt, -mostWires, -1, 0, mostWires + 1, 1 << 16, 1 << 31, math.MaxInt} {
		if n, why := net.New(room); n != nil || why != api.ErrArg {
			t.Errorf("New(%d): %v, %v", room, n, why)
		}
	}
	for _, room := range []int{1, 2, 100, mostWires - 1, mostWires} {
		has(t, fresh(t, room), 0)
	}
}

func TestRoom(t *testing.T) {
	for _, room := range []int{1, 2, 3, mostWires - 1, mostWires} {
		n := fresh(t, room)
		var texts []string
		for i := range room {
			texts = append(texts, strconv.Itoa(i))
			must(t, "Send", n.Send(wire(0, 0, texts[i])), api.OK)
			has(t, n, 0, texts...)
		}
		for i := range 3 {
			must(t, "Send without room", n.Send(wire(0, 0, "x")), api.ErrFull)
			has(t, n, i+1, texts...)
		}
		if _, why := n.Take(0); why != api.OK {
			t.Fatal(why)
		}
		must(t, "Send", n.Send(wire(0, 0, "y")), api.OK)
		has(t, n, 3, append(texts[1:], "y")...)
		must(t, "Send without room", n.Send(wire(0, 0, "z")), api.ErrFull)
	}
}

func TestNetworksAreApart(t *testing.T) {
	a, b := filled(t, 1, "a"), filled(t, 2, "b", "c")
	must(t, "Send", a.Send(wire(0, 0, "x")), api.ErrFull)
	must(t, "Late", b.Late(0), api.OK)
	has(t, a, 1, "a")
	has(t, b, 0, "c", "b")
}

func TestSendFromAndTo(t *testing.T) {
	n := fresh(t, mostWires)
	for from := range 256 {
		for to := range 256 {
			before := n.Len()
			why := n.Send(wire(uint8(from), uint8(to), ""))
			switch {
			case from < mostNodes && to < mostNodes:
				must(t, "Send", why, api.OK)
				if w, _ := n.At(before); n.Len() != before+1 || tell(w) != (told{uint8(from), uint8(to), ""}) {
					t.Fatalf("%d to %d: %v at %d", from, to, w, before)
				}
			case why != api.ErrArg || n.Len() != before:
				t.Fatalf("%d to %d: %v, and %d, behind %d", from, to, why, n.Len(), before)
			}
		}
	}
	if n.Len() != mostNodes*mostNodes || n.Lost() != 0 {
		t.Fatal(n.Len(), n.Lost())
	}
}

func TestSendBytes(t *testing.T) {
	n := fresh(t, 9)
	for _, size := range []int{mostBytes + 1, 2 * mostBytes, 1 << 20} {
		must(t, "Send of too many", n.Send(net.Wire{Bytes: make([]byte, size)}), api.ErrMany)
	}
	has(t, n, 0)
	for i, size := range []int{0, 1, mostBytes - 1, mostBytes} {
		b := bytes.Repeat([]byte{0, 1, 255}, size)[:size]
		must(t, "Send", n.Send(net.Wire{From: 1, To: 2, Bytes: b}), api.OK)
		if w, why := n.At(i); why != api.OK || !bytes.Equal(w.Bytes, b) {
			t.Fatalf("%d bytes: %d, %v", size, len(w.Bytes), why)
		}
	}
	must(t, "Send of nothing", n.Send(net.Wire{}), api.OK)
	if w, why := n.Take(4); why != api.OK || tell(w) != (told{}) {
		t.Fatal(w, why)
	}
}

// The error that is named first is the answer, and just what there is no room for is lost.
func TestSendErrorsInOrder(t *testing.T) {
	n := filled(t, 1, "a")
	long := make([]byte, mostBytes+1)
	for _, c := range []struct {
		w    net.Wire
		want api.Errno
	}{
		{net.Wire{From: mostNodes, Bytes: long}, api.ErrArg},
		{net.Wire{To: mostNodes, Bytes: long}, api.ErrArg},
		{net.Wire{From: 255, To: 255}, api.ErrArg},
		{net.Wire{From: mostNodes}, api.ErrArg},
		{net.Wire{To: mostNodes}, api.ErrArg},
		{net.Wire{From: mostNodes - 1, To: mostNodes - 1, Bytes: long}, api.ErrMany},
	} {
		must(t, "Send", n.Send(c.w), c.want)
		has(t, n, 0, "a")
	}
	must(t, "Send", n.Send(net.Wire{Bytes: long[1:]}), api.ErrFull)
	has(t, n, 1, "a")
}

// P8.2

func TestTake(t *testing.T) {
	n := filled(t, 4, "a", "b", "c", "d")
	for _, c := range []struct {
		place int
		want  told
		left  []string
	}{
		{1, told{1, 2, "b"}, []string{"a", "c", "d"}},
		{2, told{3, 4, "d"}, []string{"a", "c"}},
		{0, told{0, 1, "a"}, []string{"c"}},
		{0, told{2, 3, "c"}, nil},
	} {
		if w, why := n.Take(c.place); tell(w) != c.want || why != api.OK {
			t.Fatalf("Take(%d): %v, %v; want %v", c.place, w, why, c.want)
		}
		has(t, n, 0, c.left...)
	}
}

func TestAt(t *testing.T) {
	n := filled(t, 4, "a", "b", "c")
	for range 2 {
		for i, want := range []told{{0, 1, "a"}, {1, 2, "b"}, {2, 3, "c"}} {
			if w, why := n.At(i); tell(w) != want || why != api.OK {
				t.Fatalf("At(%d): %v, %v; want %v", i, w, why, want)
			}
		}
	}
	has(t, n, 0, "a", "b", "c")
}

func TestDrop(t *testing.T) {
	n := filled(t, 3, "a", "b", "c")
	must(t, "Drop", n.Drop(1), api.OK)
	has(t, n, 1, "a", "c")
	must(t, "Send", n.Send(wire(0, 0, "d")), api.OK)
	must(t, "Drop", n.Drop(2), api.OK)
	has(t, n, 2, "a", "c")
	must(t, "Drop", n.Drop(0), api.OK)
	has(t, n, 3, "c")
	must(t, "Drop", n.Drop(0), api.OK)
	has(t, n, 4)
}

func TestTwice(t *testing.T) {
	n := filled(t, 4, "a", "b")
	must(t, "Twice", n.Twice(0), api.OK)
	has(t, n, 0, "a", "b", "a")
	if one, two := look(t, n).wires[0], look(t, n).wires[2]; one != two {
		t.Fatalf("%v and %v", one, two)
	}
	must(t, "Twice", n.Twice(1), api.OK)
	has(t, n, 0, "a", "b", "a", "b")
	for i := range 4 {
		must(t, "Twice without room", n.Twice(i), api.ErrFull)
	}
	// It was never sent: nothing is lost.
	has(t, n, 0, "a", "b", "a", "b")
	must(t, "Drop", n.Drop(0), api.OK)
	must(t, "Twice of a double", n.Twice(1), api.OK)
	has(t, n, 1, "b", "a", "b", "a")
}

// Of one that is not there ErrNone, with room or without.
func TestTwiceErrorsInOrder(t *testing.T) {
	n := filled(t, 1, "a")
	must(t, "Twice of none", n.Twice(1), api.ErrNone)
	must(t, "Twice of none", n.Twice(-1), api.ErrNone)
	must(t, "Twice without room", n.Twice(0), api.ErrFull)
}

func TestLate(t *testing.T) {
	// It needs no room.
	n := filled(t, 3, "a", "b", "c")
	must(t, "Late", n.Late(0), api.OK)
	has(t, n, 0, "b", "c", "a")
	must(t, "Late", n.Late(1), api.OK)
	has(t, n, 0, "b", "a", "c")
	must(t, "Late of the last", n.Late(2), api.OK)
	has(t, n, 0, "b", "a", "c")
	if w, why := n.At(1); tell(w) != (told{0, 1, "a"}) || why != api.OK {
		t.Fatal(w, why)
	}
	alone := filled(t, 1, "x")
	must(t, "Late of the only one", alone.Late(0), api.OK)
	has(t, alone, 0, "x")
}

// The chapter's example.
func TestExample(t *testing.T) {
	n := fresh(t, mostWires)
	must(t, "Send", n.Send(wire(0, 1, "a")), api.OK)
	must(t, "Send", n.Send(wire(0, 1, "b")), api.OK)
	must(t, "Late", n.Late(0), api.OK)
	if w, why := n.Take(0); string(w.Bytes) != "b" || why != api.OK {
		t.Fatal(w, why)
	}
	has(t, n, 0, "a")
}

func TestNone(t *testing.T) {
	for _, texts := range [][]string{nil, {"a"}, {"a", "b", "c"}} {
		n := filled(t, 3, texts...)
		for _, i := range []int{math.MinInt, -len(texts), -1, len(texts), len(texts) + 1, 3, mostWires, math.MaxInt} {
			if w, why := n.Take(i); w.From != 0 || w.To != 0 || len(w.Bytes) != 0 || why != api.ErrNone {
				t.Errorf("Take(%d): %v, %v", i, w, why)
			}
			if w, why := n.At(i); w.From != 0 || w.To != 0 || len(w.Bytes) != 0 || why != api.ErrNone {
				t.Errorf("At(%d): %v, %v", i, w, why)
			}
			must(t, "Drop", n.Drop(i), api.ErrNone)
			must(t, "Twice", n.Twice(i), api.ErrNone)
			must(t, "Late", n.Late(i), api.ErrNone)
			has(t, n, 0, texts...)
		}
	}
}

// What was handed in and what was answered may be written into.
func TestListsAreTheCallers(t *testing.T) {
	n := fresh(t, 9)
	given := append(make([]byte, 0, 20), "abc"...)
	w := net.Wire{From: 1, To: 2, Bytes: given}
	must(t, "Send", n.Send(w), api.OK)
	must(t, "Send", n.Send(w), api.OK)
	must(t, "Twice", n.Twice(0), api.OK)
	copy(given, "xyz")
	_ = append(given, "uvw"...)
	has(t, n, 0, "abc", "abc", "abc")

	one, _ := n.At(0)
	two, _ := n.At(0)
	copy(one.Bytes, "???")
	_ = append(one.Bytes, "!!!"...)
	if string(two.Bytes) != "abc" {
		t.Fatalf("%q", two.Bytes)
	}
	has(t, n, 0, "abc", "abc", "abc")

	taken, _ := n.Take(0)
	copy(taken.Bytes, "!!!")
	has(t, n, 0, "abc", "abc")
	last, _ := n.Take(1)
	copy(last.Bytes, "...")
	has(t, n, 0, "abc")
	if string(given) != "xyz" || string(one.Bytes) != "???" || string(two.Bytes) != "abc" || string(taken.Bytes) != "!!!" {
		t.Fatalf("%q, %q, %q, %q", given, one.Bytes, two.Bytes, taken.Bytes)
	}

	must(t, "Send", n.Send(wire(1, 2, "d")), api.OK)
	places := n.To(2)
	if !slices.Equal(places, []int{0, 1}) {
		t.Fatal(places)
	}
	places[0], places[1] = 7, 8
	if got := n.To(2); !slices.Equal(got, []int{0, 1}) {
		t.Fatal(got)
	}
}

// P8.3

func TestTo(t *testing.T) {
	n := fresh(t, 9)
	for node := range 256 {
		if got := n.To(uint8(node)); len(got) != 0 {
			t.Fatalf("To(%d): %v", node, got)
		}
	}
	for i, to := range []uint8{7, 0, 3, 7, 7, 3} {
		must(t, "Send", n.Send(wire(uint8(i), to, "")), api.OK)
	}
	want := map[int][]int{0: {1}, 3: {2, 5}, 7: {0, 3, 4}}
	for node := range 256 {
		if got := n.To(uint8(node)); !slices.Equal(got, want[node]) {
			t.Errorf("To(%d): %v; want %v", node, got, want[node])
		}
	}
	must(t, "Late", n.Late(0), api.OK)
	want = map[int][]int{0: {0}, 3: {1, 4}, 7: {2, 3, 5}}
	for node := range 256 {
		if got := n.To(uint8(node)); !slices.Equal(got, want[node]) {
			t.Errorf("behind Late: To(%d): %v; want %v", node, got, want[node])
		}
	}
}

func TestNobodyMadeIt(t *testing.T) {
	for _, n := range []*net.Net{nil, {}, new(net.Net)} {
		for range 2 {
			must(t, "Send", n.Send(wire(0, 1, "a")), api.ErrNil)
			must(t, "Send", n.Send(net.Wire{From: 99, Bytes: make([]byte, mostBytes+1)}), api.ErrNil)
			for _, i := range []int{-1, 0, 1} {
				if w, why := n.Take(i); tell(w) != (told{}) || why != api.ErrNil {
					t.Errorf("Take: %v, %v", w, why)
				}
				if w, why := n.At(i); tell(w) != (told{}) || why != api.ErrNil {
					t.Errorf("At: %v, %v", w, why)
				}
				must(t, "Drop", n.Drop(i), api.ErrNil)
				must(t, "Twice", n.Twice(i), api.ErrNil)
				must(t, "Late", n.Late(i), api.ErrNil)
			}
			if n.Len() != 0 || len(n.To(0)) != 0 || len(n.To(1)) != 0 || n.Lost() != 0 {
				t.Error(n.Len(), n.To(0), n.To(1), n.Lost())
			}
		}
	}
}

// chance gives numbers that look like any: the same ones each time.
type chance uint64

func (x *chance) below(n int) int {
	*x ^= *x << 13
	*x ^= *x >> 7
	*x ^= *x << 17
	return int(uint64(*x) % uint64(n))
}

// came is a wire of a model, which tells when it came behind all others last.
type came struct {
	when int
	told told
}

// model is a network told in another way: its wires lie about, and are put in order when they are asked for.
type model struct {
	room, now, lost int
	wires           map[int]came
	next            int
}

// names are those of the wires, in their order.
func (m *model) names() []int {
	var names []int
	for name := range m.wires {
		names = append(names, name)
	}
	sort.Slice(names, func(a, b int) bool { return m.wires[names[a]].when < m.wires[names[b]].when })
	return names
}

func (m *model) seen() seen {
	s := seen{lost: m.lost}
	for i, name := range m.names() {
		w := m.wires[name].told
		s.wires = append(s.wires, w)
		s.to[w.to] = append(s.to[w.to], i)
	}
	return s
}

func (m *model) put(name int, w told) {
	m.now++
	m.wires[name] = came{m.now, w}
}

func (m *model) send(w told) api.Errno {
	switch {
	case w.from >= mostNodes || w.to >= mostNodes:
		return api.ErrArg
	case len(w.text) > mostBytes:
		return api.ErrMany
	case len(m.wires) == m.room:
		m.lost++
		return api.ErrFull
	}
	m.next++
	m.put(m.next, w)
	return api.OK
}

// at does something with the i-th wire.
func (m *model) at(i int, do func(name int, w told) api.Errno) (told, api.Errno) {
	names := m.names()
	if i < 0 || i >= len(names) {
		return told{}, api.ErrNone
	}
	w := m.wires[names[i]].told
	return w, do(names[i], w)
}

func (m *model) take(name int, w told) api.Errno {
	delete(m.wires, name)
	return api.OK
}

func (m *model) stay(name int, w told) api.Errno { return api.OK }

func (m *model) drop(name int, w told) api.Errno {
	m.lost++
	return m.take(name, w)
}

func (m *model) twice(name int, w told) api.Errno {
	if len(m.wires) == m.room {
		return api.ErrFull
	}
	m.next++
	m.put(m.next, w)
	return api.OK
}

func (m *model) late(name int, w told) api.Errno {
	m.put(name, w)
	return api.OK
}

// step does one thing, of any kind, to a network and to its model, and tells both answers.
func step(x *chance, n *net.Net, m *model, text string) (got, want told, why, wantWhy api.Errno) {
	i := x.below(len(m.wires)+3) - 1
	var w net.Wire
	switch x.below(10) {
	case 0, 1, 2, 3:
		sent := told{uint8(x.below(mostNodes + 1)), uint8(x.below(mostNodes)), text}
		if x.below(20) == 0 {
			sent.text += string(make([]byte, mostBytes))
		}
		why, wantWhy = n.Send(wire(sent.from, sent.to, sent.text)), m.send(sent)
	case 4, 5:
		w, why = n.Take(i)
		got = tell(w)
		want, wantWhy = m.at(i, m.take)
	case 6:
		w, why = n.At(i)
		got = tell(w)
		want, wantWhy = m.at(i, m.stay)
	case 7:
		why = n.Drop(i)
		_, wantWhy = m.at(i, m.drop)
	case 8:
		why = n.Twice(i)
		_, wantWhy = m.at(i, m.twice)
	default:
		why = n.Late(i)
		_, wantWhy = m.at(i, m.late)
	}
	return got, want, why, wantWhy
}

// The promises as a whole, against a model that keeps no row.
func TestAsTheModel(t *testing.T) {
	x := chance(0x9E3779B97F4A7C15)
	for round := range 300 {
		room := []int{1, 2, 3, 7, 20}[round%5]
		n := fresh(t, room)
		m := &model{room: room, wires: map[int]came{}}
		for i := range 150 {
			was := look(t, n)
			got, want, why, wantWhy := step(&x, n, m, strconv.Itoa(i))
			if got != want || why != wantWhy {
				t.Fatalf("round %d, step %d: %v, %v; want %v, %v", round, i, got, why, want, wantWhy)
			}
			now := look(t, n)
			if !now.same(m.seen()) {
				t.Fatalf("round %d, step %d: %v; want %v", round, i, now, m.seen())
			}
			// An error turns nothing but what is lost of what was sent.
			if why != api.OK && (!slices.Equal(was.wires, now.wires) || now.lost-was.lost > 1 || why != api.ErrFull && now.lost != was.lost) {
				t.Fatalf("round %d, step %d: behind %v it is %v, and was %v", round, i, why, now, was)
			}
		}
	}
}

// tally counts what became of the wires of a network, each of whose texts is sent once.
type tally struct {
	sent, taken        map[told]int
	doubled            map[told]int
	dropped, lostAhead int
}

func sum(counts map[told]int) int {
	all := 0
	for _, n := range counts {
		all += n
	}
	return all
}

// busy does some steps to a network, with all that is asked for counted.
func busy(t *testing.T, x *chance, n *net.Net, steps int) tally {
	t.Helper()
	c := tally{map[told]int{}, map[told]int{}, map[told]int{}, 0, 0}
	for s := range steps {
		i := x.below(n.Len() + 1)
		w, _ := n.At(i)
		switch x.below(8) {
		case 0, 1, 2:
			w := wire(uint8(x.below(mostNodes)), uint8(x.below(mostNodes)), strconv.Itoa(s))
			if n.Send(w) == api.OK {
				c.sent[tell(w)]++
			} else {
				c.lostAhead++
			}
		case 3, 4:
			if got, why := n.Take(i); why == api.OK {
				c.taken[tell(got)]++
			}
		case 5:
			if n.Drop(i) == api.OK {
				c.dropped++
			}
		case 6:
			if n.Twice(i) == api.OK {
				c.doubled[tell(w)]++
			}
		default:
			n.Late(i)
		}
	}
	return c
}

// P8.4

func TestWhatIsTakenWasSent(t *testing.T) {
	x := chance(88172645463325252)
	for range 400 {
		n := fresh(t, 1+x.below(12))
		c := busy(t, &x, n, 120)
		for n.Len() > 0 {
			w, why := n.Take(x.below(n.Len()))
			must(t, "Take", why, api.OK)
			c.taken[tell(w)]++
		}
		for w, times := range c.taken {
			if c.sent[w] != 1 {
				t.Fatalf("%v was taken, and sent %d times", w, c.sent[w])
			}
			if times > 1+c.doubled[w] {
				t.Fatalf("%v was taken %d times, and doubled %d times", w, times, c.doubled[w])
			}
		}
	}
}

// P8.5

func TestOthersStayInTheirOrder(t *testing.T) {
	x := chance(2463534242)
	for range 2000 {
		n := fresh(t, 1+x.below(12))
		busy(t, &x, n, 20)
		if n.Len() == 0 {
			continue
		}
		was := look(t, n).wires
		i := x.below(n.Len())
		others := slices.Delete(slices.Clone(was), i, i+1)
		want := others
		switch x.below(5) {
		case 0:
			n.Take(i)
		case 1:
			n.Drop(i)
		case 2:
			n.Late(i)
			want = append(others, was[i])
		case 3:
			want = slices.Clone(was)
			if n.Twice(i) == api.OK {
				want = append(want, was[i])
			}
		default:
			want = slices.Clone(was)
			if w := wire(1, 2, "new"); n.Send(w) == api.OK {
				want = append(want, tell(w))
			}
		}
		if got := look(t, n).wires; !slices.Equal(got, want) {
			t.Fatalf("%v; want %v, of %v and %d", got, want, was, i)
		}
	}
}

// P8.6

func TestNoneGoesUncounted(t *testing.T) {
	x := chance(362436069)
	for range 400 {
		n := fresh(t, 1+x.below(12))
		c := busy(t, &x, n, 1+x.below(150))
		if in, out := sum(c.sent)+sum(c.doubled), sum(c.taken)+c.dropped+n.Len(); in != out {
			t.Fatalf("%d came; %d were taken, %d lost, %d are there", in, sum(c.taken), c.dropped, n.Len())
		}
		if n.Lost() != c.dropped+c.lostAhead {
			t.Fatalf("lost %d; want %d dropped, and %d without room", n.Lost(), c.dropped, c.lostAhead)
		}
	}
}
