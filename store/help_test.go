package store_test

import (
	"slices"
	"testing"

	"parrel/api"
	"parrel/disk"
	"parrel/frame"
	"parrel/rec"
	"parrel/store"
)

// bytesOf are the frames of records, of which each may be.
func bytesOf(recs ...rec.Rec) []byte {
	var out []byte
	for _, r := range recs {
		load, why := rec.Encode(r)
		if why != api.OK {
			panic(why)
		}
		b, _ := frame.Put(nil, load)
		out = append(out, b...)
	}
	return out
}

// recordsOn are the records that a disk has, up to the first half frame.
func recordsOn(t *testing.T, d *disk.Disk) []rec.Rec {
	t.Helper()
	b, why := d.Read()
	must(t, "Read", why, api.OK)
	loads, _ := frame.Scan(b)
	var out []rec.Rec
	for _, load := range loads {
		r, fault := rec.Decode(load)
		if fault.Why != api.OK {
			t.Fatal(fault)
		}
		out = append(out, r)
	}
	return out
}

// logHas asks for just those records on a disk.
func logHas(t *testing.T, d *disk.Disk, want ...rec.Rec) {
	t.Helper()
	if got := recordsOn(t, d); !sameList(got, want) {
		t.Fatalf("the log has\n%v; want\n%v", got, want)
	}
}

// diskOf is a disk that has records, all of them forced.
func diskOf(t *testing.T, room int, recs ...rec.Rec) *disk.Disk {
	t.Helper()
	d := newDisk(t, room)
	appended(t, d, recs...)
	return d
}

// appended puts records on a disk, behind what it has.
func appended(t *testing.T, d *disk.Disk, recs ...rec.Rec) {
	t.Helper()
	_, why := d.Append(bytesOf(recs...))
	must(t, "the disk's Append", why, api.OK)
	must(t, "the disk's Force", d.Force(), api.OK)
}

// filled puts records on a disk that turn nothing, until just so many bytes are left; a store on it goes on behind them.
func filled(t *testing.T, d *disk.Disk, left int) {
	t.Helper()
	x := store.Decision{Tx: api.Tx{Node: 7, Boot: 1, Num: 1}, Members: 1, Writes: many(16, long(64)), Missing: make([]uint64, 16)}
	big := []rec.Rec{recordOf(x), {Kind: rec.Ended, Tx: x.Tx}}
	var recs []rec.Rec
	need := d.Left() - left
	for need > sizeOf(big...)+24 {
		recs = append(recs, big...)
		need -= sizeOf(big...)
	}
	// A record Ended has from 12 to 20 bytes with its frame.
	for count := (need + 19) / 20; count > 0; count-- {
		numbers := [5]uint32{1, 1 << 7, 1 << 14, 1 << 21, 1 << 28}
		more := need/count - 12
		if more < 0 {
			t.Fatalf("%d bytes can not be filled", need)
		}
		recs = append(recs, rec.Rec{Kind: rec.Ended, Tx: api.Tx{Node: 7, Boot: numbers[more/2], Num: numbers[more-more/2]}})
		need -= need / count
	}
	appended(t, d, recs...)
	if d.Left() != left {
		t.Fatalf("%d bytes are left; want %d", d.Left(), left)
	}
}

// opened is the store of a disk.
func opened(t *testing.T, d *disk.Disk, first []api.Write) *store.Store {
	t.Helper()
	s, why := store.Open(d, first)
	if s == nil || why != api.OK {
		t.Fatalf("Open: %v, %v", s, why)
	}
	return s
}

// notOpened asks for an error of Open, and nothing with it.
func notOpened(t *testing.T, d *disk.Disk, first []api.Write, want api.Errno) {
	t.Helper()
	if s, why := store.Open(d, first); s != nil || why != want {
		t.Fatalf("Open: %v, %v; want %v", s, why, want)
	}
}

// lose turns the power of a disk off, if it is on, and on again.
func lose(t *testing.T, d *disk.Disk, keep int, cut bool) {
	t.Helper()
	if d.On() {
		must(t, "Fail", d.Fail(), api.OK)
	}
	must(t, "Start", d.Start(keep, cut, nil), api.OK)
}

// must is an error that has to be that one.
func must(t *testing.T, what string, got, want api.Errno) {
	t.Helper()
	if got != want {
		t.Fatalf("%s: %v; want %v", what, got, want)
	}
}

// has asks for all that can be told of a store.
func has(t *testing.T, s *store.Store, m *model) {
	t.Helper()
	if s.Boot() != m.boot {
		t.Fatalf("Boot: %d; want %d", s.Boot(), m.boot)
	}
	hasItems(t, s, m)
	hasStaged(t, s, m)
	if got := s.Decisions(); !sameDecisions(got, m.decisions) {
		t.Fatalf("Decisions: %v; want %v", got, m.decisions)
	}
}

func hasItems(t *testing.T, s *store.Store, m *model) {
	t.Helper()
	if got := s.Items(); !slices.Equal(got, m.items) {
		t.Fatalf("Items: %v; want %v", got, m.items)
	}
	for _, k := range append(keysOf(m.items), key("none"), key("a"), api.Key{}, api.Key{0, 'a'}) {
		want, is := m.item(k)
		if got, there := s.Item(k); got != want || there != is {
			t.Fatalf("Item(%v): %v, %v; want %v, %v", k, got, there, want, is)
		}
	}
}

func hasStaged(t *testing.T, s *store.Store, m *model) {
	t.Helper()
	var names []api.Tx
	for _, w := range m.staged {
		names = append(names, w.tx)
	}
	if got := s.Staged(); !slices.Equal(got, names) {
		t.Fatalf("Staged: %v; want %v", got, names)
	}
	for _, x := range append(names, tx(99), api.Tx{}) {
		want, is := m.work(x)
		if l, g, there := s.Writes(x); !slices.Equal(l, want.writes) || g != want.reg || there != is {
			t.Fatalf("Writes(%v): %v, %v, %v; want %v, %v", x, l, g, there, want, is)
		}
	}
	for _, k := range append(keysOf(m.items), key("none"), api.Key{}) {
		want, is := m.owner(k)
		if got, there := s.Owner(k); got != want || there != is {
			t.Fatalf("Owner(%v): %v, %v; want %v, %v", k, got, there, want, is)
		}
	}
}

func keysOf(l []api.Write) []api.Key {
	var out []api.Key
	for _, x := range l {
		out = append(out, x.Key)
	}
	return out
}

// look is all that can be told of a disk.
type look struct {
	text        string
	base, end   int
	first, sure int
	left        int
	on          bool
}

func seen(d *disk.Disk) look {
	b, _ := d.Read()
	first, sure := d.Forced()
	return look{string(b), d.Base(), d.End(), first, sure, d.Left(), d.On()}
}

// stays tells of a disk that something turned.
func stays(t *testing.T, d *disk.Disk, was look) {
	t.Helper()
	if got := seen(d); got != was {
		t.Fatalf("the disk is %+v; it was %+v", got, was)
	}
}

// pending is how many bytes of a disk are not forced.
func pending(d *disk.Disk) int {
	_, sure := d.Forced()
	return d.End() - sure
}
