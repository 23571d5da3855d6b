package coord_test

import (
	"slices"
	"strconv"
	"testing"

	"parrel/api"
	"parrel/bits"
	"parrel/coord"
	"parrel/disk"
	"parrel/msg"
	"parrel/part"
	"parrel/store"
)

// wire is a message on its way.
type wire struct {
	from, to uint8
	m        msg.Msg
}

// site is a node: a part that all have, and the coordinator of the one that begins transactions.
type site struct {
	d *disk.Disk
	s *store.Store
	p *part.Part
}

// wish is a transaction that gathers locks: the grants of each of its keys.
type wish struct {
	tx   api.Tx
	keys string
	got  map[string]map[uint8]msg.Msg
}

// whole is four nodes, of which one begins transactions, and wires between them that are lost, doubled and mixed up.
type whole struct {
	row    chance
	sites  [4]*site
	c      *coord.Coord
	wires  []wire
	wishes []*wish
	next   uint32
	fates  map[api.Tx]bool // whether it was done, and then committed
	wrote  map[api.Tx][]api.Write
}

// enough nodes have a write, so that any two writes of a key have a node in common.
const enough = 3

func firstItems() []api.Write {
	var out []api.Write
	for _, k := range []string{"a", "b", "c"} {
		out = append(out, api.Write{Key: key(k), Item: of(0, "")})
	}
	return out
}

func newWhole(t *testing.T, seed int) *whole {
	t.Helper()
	w := &whole{row: chance(4000 + seed), fates: map[api.Tx]bool{}, wrote: map[api.Tx][]api.Write{}}
	for n := range w.sites {
		d, why := disk.New(mostRoom)
		must(t, "New", why, api.OK)
		w.sites[n] = &site{d: d}
		w.open(t, n)
	}
	return w
}

func (w *whole) open(t *testing.T, n int) {
	t.Helper()
	x := w.sites[n]
	s, why := store.Open(x.d, firstItems())
	must(t, "Open", why, api.OK)
	x.s, x.p = s, part.New(s)
	if n == self {
		w.c, w.wishes = coord.New(self, s), nil
	}
}

// loses takes the power of a node, and gives it again, with some of what was not forced.
func (w *whole) loses(t *testing.T, n int) {
	t.Helper()
	if x := w.sites[n]; x.d.On() {
		must(t, "Fail", x.d.Fail(), api.OK)
	}
	must(t, "Start", w.sites[n].d.Start(w.row.below(300), w.row.below(2) == 0, nil), api.OK)
	w.open(t, n)
}

func (w *whole) send(from uint8, list []part.Send) {
	for _, x := range list {
		w.wires = append(w.wires, wire{from: from, to: x.To, m: x.Msg})
	}
}

// begins asks all nodes for locks to write some keys.
func (w *whole) begins() {
	w.next++
	x := &wish{tx: api.Tx{Node: self, Boot: w.sites[self].s.Boot(), Num: w.next}, got: map[string]map[uint8]msg.Msg{}}
	for _, k := range []string{"a", "b", "c"} {
		if w.row.below(2) == 0 {
			x.keys += k
			x.got[k] = map[uint8]msg.Msg{}
		}
	}
	w.wishes = append(w.wishes, x)
	for no, k := range x.keys {
		for n := range w.sites {
			m := msg.Msg{Kind: msg.Ask, Tx: x.tx, Time: w.next, Key: key(string(k)), Mode: 2, No: uint32(no)}
			w.wires = append(w.wires, wire{from: self, to: uint8(n), m: m})
		}
	}
}

// gives takes a Grant, and starts the transaction if it has enough of all its keys.
func (w *whole) gives(t *testing.T, from uint8, m msg.Msg) {
	t.Helper()
	for n, x := range w.wishes {
		if x.tx != m.Tx {
			continue
		}
		name := string(m.Key[:1])
		if x.got[name] == nil || !w.oneReg(x, from, m) {
			return
		}
		x.got[name][from] = m
		if w.starts(t, x) {
			w.wishes = slices.Delete(w.wishes, n, n+1)
		}
		return
	}
}

// oneReg tells whether a node granted by one reg alone.
func (w *whole) oneReg(x *wish, from uint8, m msg.Msg) bool {
	for _, got := range x.got {
		if g, is := got[from]; is && g.Reg != m.Reg {
			return false
		}
	}
	return true
}

// starts starts a transaction whose keys are all granted by enough nodes, and tells whether they are.
func (w *whole) starts(t *testing.T, x *wish) bool {
	t.Helper()
	var l []api.Write
	var missing []uint64
	for _, k := range x.keys {
		version, set := uint32(0), uint64(0)
		for n, g := range x.got[string(k)] {
			version, set = max(version, g.Item.Version), bits.With(set, int(n))
		}
		if bits.Count(set) < enough {
			return false
		}
		value := strconv.Itoa(int(x.tx.Boot)) + "." + strconv.Itoa(int(x.tx.Num))
		l = append(l, api.Write{Key: key(string(k)), Item: of(version+1, value)})
		missing = append(missing, 15&^set)
	}
	var who []coord.Member
	for n := range w.sites {
		y := coord.Member{Node: uint8(n)}
		for at, k := range x.keys {
			if g, is := x.got[string(k)][uint8(n)]; is {
				y.Reg, y.Writes = g.Reg, append(y.Writes, l[at])
			}
		}
		if y.Writes != nil {
			who = append(who, y)
		}
	}
	list, done, why := w.c.Start(x.tx, who, l, missing)
	must(t, "Start", why, api.OK)
	w.wrote[x.tx] = l
	w.took(t, list, done)
	return true
}

// took is what comes of a call of the coordinator.
func (w *whole) took(t *testing.T, list []part.Send, done []coord.Done) {
	t.Helper()
	w.send(self, list)
	for _, y := range done {
		if _, is := w.fates[y.Tx]; is {
			t.Fatalf("%v is done twice", y)
		}
		w.fates[y.Tx] = y.Committed
	}
}

// lost lets a transaction go of which a lock was lost.
func (w *whole) lost(t *testing.T, from uint8, m msg.Msg) {
	t.Helper()
	for n, x := range w.wishes {
		if x.tx == m.Tx {
			w.wishes = slices.Delete(w.wishes, n, n+1)
			for to := range w.sites {
				w.wires = append(w.wires, wire{from: self, to: uint8(to), m: decide(0, 0, toAbort).Msg})
				w.wires[len(w.wires)-1].m.Tx = x.tx
			}
			return
		}
	}
}

// comes hands a message on to whom it is for.
func (w *whole) comes(t *testing.T, x wire) {
	t.Helper()
	p := w.sites[x.to].p
	switch x.m.Kind {
	case msg.Ask:
		w.send(x.to, p.Ask(x.m))
	case msg.Prepare:
		w.send(x.to, p.Prepare(x.m))
	case msg.Decide:
		w.send(x.to, p.Decide(x.m))
	case msg.Fresh:
		w.send(x.to, p.Fresh(x.m))
	case msg.Grant:
		w.gives(t, x.from, x.m)
	case msg.Refuse, msg.Wound:
		w.lost(t, x.from, x.m)
	case msg.Vote:
		list, done := w.c.Vote(x.from, x.m)
		w.took(t, list, done)
	case msg.Ack:
		w.took(t, w.c.Ack(x.from, x.m), nil)
	case msg.Kept:
		w.took(t, w.c.Kept(x.from, x.m), nil)
	case msg.Inquire:
		w.took(t, w.c.Inquire(x.from, x.m), nil)
	}
}

// waits lets all that wait ask again.
func (w *whole) waits(t *testing.T, known bool) {
	t.Helper()
	for _, y := range append(w.c.Asked(), w.c.Decided()...) {
		list, done := w.c.Late(y)
		w.took(t, list, done)
	}
	for n, x := range w.sites {
		late := x.s.Staged()
		if known {
			late = append(late, x.p.Known()...)
		}
		for _, y := range late {
			w.send(uint8(n), x.p.Late(y))
		}
	}
}

// step is anything that may happen.
func (w *whole) step(t *testing.T) {
	t.Helper()
	switch chosen := w.row.below(1000); {
	case chosen < 10:
		w.begins()
	case chosen < 20:
		w.waits(t, w.row.below(6) == 0)
	case chosen < 22:
		w.loses(t, w.row.below(len(w.sites)))
	case chosen < 24:
		w.sites[w.row.below(len(w.sites))].d.Arm(w.row.below(3))
	case len(w.wires) > 0:
		n := w.row.below(min(12, len(w.wires)))
		x := w.wires[n]
		// Some come twice, some never.
		if chosen < 960 {
			w.wires = slices.Delete(w.wires, n, n+1)
		}
		if chosen > 50 {
			w.comes(t, x)
		}
	}
	for n, x := range w.sites {
		// Of what a node sent in a step in which it lost its power some never went.
		if !x.d.On() {
			w.wires = slices.DeleteFunc(w.wires, func(y wire) bool { return int(y.from) == n && w.row.below(2) == 0 })
			w.loses(t, n)
		}
	}
}

// calms lets all nodes alone, until nothing is on its way, nothing in doubt and nothing missing.
func (w *whole) calms(t *testing.T) {
	t.Helper()
	for n := range w.sites {
		w.loses(t, n)
	}
	for range 3 * lastLate {
		w.waits(t, true)
		for len(w.wires) > 0 {
			x := w.wires[0]
			w.wires = w.wires[1:]
			w.comes(t, x)
		}
	}
	for n, x := range w.sites {
		if len(x.s.Staged()) > 0 || len(x.p.Users()) > 0 || len(x.s.Decisions()) > 0 {
			t.Fatalf("%d has staged %v, users %v, decided %v", n, x.s.Staged(), x.p.Users(), x.s.Decisions())
		}
	}
}

// agrees asks of each version of each item that just one transaction wrote it, at all nodes, and that it was not aborted.
func (w *whole) agrees(t *testing.T) {
	t.Helper()
	by := map[string]api.Tx{}
	for x, was := range w.fates {
		for _, y := range w.wrote[x] {
			name := string(y.Key[:1]) + strconv.Itoa(int(y.Item.Version))
			if _, is := by[name]; is && was {
				t.Fatalf("%v and %v both wrote %s", by[name], x, name)
			} else if was {
				by[name] = x
			}
		}
	}
	for n, s := range w.sites {
		for at, y := range s.s.Items() {
			if y != w.sites[0].s.Items()[at] {
				t.Fatalf("%d has %v, 0 has %v", n, y, w.sites[0].s.Items()[at])
			}
			for x, was := range w.fates {
				for _, l := range w.wrote[x] {
					if l.Key == y.Key && was && l.Item.Version > y.Item.Version {
						t.Fatalf("%d has %v, and %v was committed with %v", n, y, x, l)
					}
					if l.Key == y.Key && !was && l.Item.Value == y.Item.Value {
						t.Fatalf("%d has %v, and %v was aborted", n, y, x)
					}
				}
			}
		}
	}
}

// With parts, whatever is lost, doubled and mixed up, and whoever loses its power: no transaction is committed here and aborted there, and left alone all nodes have all writes.
func TestNoneIsCommittedHereAndAbortedThere(t *testing.T) {
	committed, aborted := 0, 0
	for seed := range 100 {
		w := newWhole(t, seed)
		for range 2500 {
			w.step(t)
		}
		w.calms(t)
		w.agrees(t)
		for _, was := range w.fates {
			if was {
				committed++
			} else {
				aborted++
			}
		}
	}
	if committed < 500 || aborted < 150 {
		t.Fatal(committed, aborted)
	}
}
