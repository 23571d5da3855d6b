package store_test

import (
	"bytes"
	"cmp"
	"slices"
	"strings"
	"testing"

	"parrel/api"
	"parrel/disk"
	"parrel/rec"
	"parrel/store"
)

// The limits, as the document tells them.
const (
	most       = 1<<31 - 1
	mostRoom   = 1 << 16
	mostKeys   = 64
	mostStaged = 64
	frameSize  = 8 // the bytes of a frame ahead of its load
)

func conf(epoch uint32) api.Config {
	c := api.Config{Epoch: epoch, R: 2, W: 2}
	copy(c.Votes[:], []uint8{1, 1, 1})
	return c
}

func of(version uint32, value string) api.Item {
	return api.Item{Version: version, Value: value, Conf: conf(1)}
}

func key(s string) api.Key {
	var k api.Key
	copy(k[:], s)
	return k
}

func write(k string, version uint32, value string) api.Write {
	return api.Write{Key: key(k), Item: of(version, value)}
}

// writes are of keys of a letter each, which have to rise.
func writes(keys string, version uint32, value string) []api.Write {
	var out []api.Write
	for n := range len(keys) {
		out = append(out, write(keys[n:n+1], version, value))
	}
	return out
}

// many are so many items of the version 0, none of whose keys is a letter's.
func many(count int, value string) []api.Write {
	var out []api.Write
	for n := range count {
		out = append(out, write("k"+string([]byte{byte(n + 1)}), 0, value))
	}
	return out
}

func tx(num uint32) api.Tx { return api.Tx{Node: 1, Boot: 1, Num: num} }

func reg(n uint32) api.Reg { return api.Reg{Boot: 1, N: n} }

func decision(num uint32, l []api.Write) store.Decision {
	return store.Decision{Tx: tx(num), Members: 3, Writes: l, Missing: slices.Repeat([]uint64{4}, len(l))}
}

func long(count int) string { return strings.Repeat("v", count) }

// Records, short to tell.

func boot(n uint32) rec.Rec { return rec.Rec{Kind: rec.Boot, N: n} }

func fresh(k string, version uint32, value string) rec.Rec {
	return rec.Rec{Kind: rec.Fresh, Key: key(k), Item: of(version, value)}
}

func prepared(num, n uint32, l []api.Write) rec.Rec {
	return rec.Rec{Kind: rec.Prepared, Tx: tx(num), Reg: reg(n), Writes: l}
}

func done(num uint32) rec.Rec { return rec.Rec{Kind: rec.Done, Tx: tx(num)} }

func undone(num uint32) rec.Rec { return rec.Rec{Kind: rec.Undone, Tx: tx(num)} }

func decided(num uint32, l []api.Write) rec.Rec { return recordOf(decision(num, l)) }

func ended(num uint32) rec.Rec { return rec.Rec{Kind: rec.Ended, Tx: tx(num)} }

func recordOf(x store.Decision) rec.Rec {
	return rec.Rec{Kind: rec.Decided, Tx: x.Tx, Members: x.Members, Writes: x.Writes, Missing: x.Missing}
}

// work is a staged transaction.
type work struct {
	tx     api.Tx
	reg    api.Reg
	writes []api.Write
}

// model is a store's state as rising lists, told without package store.
type model struct {
	boot      uint32
	items     []api.Write
	staged    []work
	decisions []store.Decision
}

// modelOf is what records make of first items.
func modelOf(first []api.Write, recs ...rec.Rec) *model {
	m := &model{}
	for _, x := range first {
		m.install(x)
	}
	for _, r := range recs {
		m.apply(r)
	}
	return m
}

func (m *model) copied() *model {
	return &model{m.boot, slices.Clone(m.items), slices.Clone(m.staged), slices.Clone(m.decisions)}
}

func (m *model) item(k api.Key) (api.Item, bool) {
	for _, x := range m.items {
		if x.Key == k {
			return x.Item, true
		}
	}
	return api.Item{}, false
}

func (m *model) install(x api.Write) {
	there, is := m.item(x.Key)
	if is && there.Version >= x.Item.Version || !is && len(m.items) == mostKeys {
		return
	}
	m.items = slices.DeleteFunc(m.items, func(y api.Write) bool { return y.Key == x.Key })
	m.items = append(m.items, x)
	slices.SortFunc(m.items, func(a, b api.Write) int { return bytes.Compare(a.Key[:], b.Key[:]) })
}

func (m *model) work(x api.Tx) (work, bool) {
	for _, w := range m.staged {
		if w.tx == x {
			return w, true
		}
	}
	return work{}, false
}

func (m *model) owner(k api.Key) (api.Tx, bool) {
	for _, w := range m.staged {
		for _, x := range w.writes {
			if x.Key == k {
				return w.tx, true
			}
		}
	}
	return api.Tx{}, false
}

func (m *model) isDecided(x api.Tx) bool {
	return slices.ContainsFunc(m.decisions, func(d store.Decision) bool { return d.Tx == x })
}

func (m *model) apply(r rec.Rec) {
	switch r.Kind {
	case rec.Boot:
		m.boot = r.N
	case rec.Prepared:
		if m.putting(r.Tx, r.Reg, r.Writes) == api.OK {
			m.drop(r.Tx)
			m.staged = append(m.staged, work{r.Tx, r.Reg, r.Writes})
			slices.SortFunc(m.staged, func(a, b work) int { return byName(a.tx, b.tx) })
		}
	case rec.Done:
		w, _ := m.work(r.Tx)
		m.drop(r.Tx)
		for _, x := range w.writes {
			m.install(x)
		}
	case rec.Undone:
		m.drop(r.Tx)
	case rec.Decided:
		if !m.isDecided(r.Tx) {
			m.decisions = append(m.decisions, store.Decision{Tx: r.Tx, Members: r.Members, Writes: r.Writes, Missing: r.Missing})
			slices.SortFunc(m.decisions, func(a, b store.Decision) int { return byName(a.Tx, b.Tx) })
		}
	case rec.Ended:
		m.decisions = slices.DeleteFunc(m.decisions, func(d store.Decision) bool { return d.Tx == r.Tx })
	case rec.Fresh:
		m.install(api.Write{Key: r.Key, Item: r.Item})
	}
}

// putting is what layer 14 answers to a Put of what may be.
func (m *model) putting(x api.Tx, g api.Reg, l []api.Write) api.Errno {
	if there, is := m.work(x); is {
		if there.reg != g || !slices.Equal(there.writes, l) {
			return api.ErrThere
		}
		return api.OK
	}
	for _, w := range l {
		if _, is := m.owner(w.Key); is {
			return api.ErrState
		}
	}
	if len(m.staged) == mostStaged {
		return api.ErrMany
	}
	return api.OK
}

func (m *model) drop(x api.Tx) {
	m.staged = slices.DeleteFunc(m.staged, func(w work) bool { return w.tx == x })
}

// records are the state's records.
func (m *model) records() []rec.Rec {
	out := []rec.Rec{boot(m.boot)}
	for _, x := range m.items {
		out = append(out, rec.Rec{Kind: rec.Fresh, Key: x.Key, Item: x.Item})
	}
	for _, w := range m.staged {
		out = append(out, rec.Rec{Kind: rec.Prepared, Tx: w.tx, Reg: w.reg, Writes: w.writes})
	}
	for _, d := range m.decisions {
		out = append(out, recordOf(d))
	}
	return out
}

// same tells whether items, staged ones and decisions are the same.
func (m *model) same(o *model) bool { return sameList(m.records()[1:], o.records()[1:]) }

// whole is the room of a disk that a record needs to be kept, as the chapter tells it.
func (m *model) whole(r rec.Rec) int {
	room := 2*sizeOf(m.records()...) + 512*len(m.staged)
	if r.Kind == rec.Boot {
		return room + 1024
	}
	return room + 4*sizeOf(r) + 2048
}

// free is the room that has to be left for it, if the log is not to be laid anew.
func (m *model) free(r rec.Rec) int {
	room := sizeOf(m.records()...) + 512*len(m.staged) + 1024
	if r.Kind == rec.Boot {
		return room
	}
	return room + 2*sizeOf(r)
}

// keeping is how a record is kept: the error, or whether the log is laid anew ahead of it.
func (m *model) keeping(r rec.Rec, room, left int) (bool, api.Errno) {
	if room < m.whole(r) {
		return false, api.ErrFull
	}
	if left >= m.free(r) {
		return false, api.OK
	}
	if left < sizeOf(m.records()...) {
		return false, api.ErrFull
	}
	return true, api.OK
}

// cleaned are the records that a log has when it is opened.
func cleaned(first []api.Write, recs []rec.Rec) []rec.Rec {
	for at := len(recs) - 1; at >= 0; at-- {
		if recs[at].Kind != rec.Boot || recs[at].N != modelOf(first, recs[:at]...).boot {
			continue
		}
		all, ahead := modelOf(first, recs...), modelOf(first, recs[:at]...)
		if all.same(modelOf(first, recs[at:]...)) {
			return recs[at:]
		}
		if all.same(ahead) && all.boot == ahead.boot {
			return recs[:at]
		}
		return recs
	}
	return recs
}

// reclaimed are the records that a log has when it is opened, if the last Boot is of an opening that was lost while it laid the log anew, and no room is left for another laying.
func reclaimed(first []api.Write, recs []rec.Rec) []rec.Rec {
	at := len(recs) - 1
	for recs[at].Kind != rec.Boot {
		at--
	}
	if modelOf(first, recs...).same(modelOf(first, recs[at:]...)) {
		return recs[at:]
	}
	return recs[:at]
}

// starting is the state of cleaned records with the boot that is to be, and how that is kept.
func starting(first []api.Write, recs []rec.Rec, room int) (m *model, anew bool, why api.Errno) {
	m = modelOf(first, recs...)
	m.boot++
	anew, why = m.keeping(boot(m.boot), room, room-sizeOf(recs...))
	return m, anew, why
}

// lacksRoom tells whether a disk that is great enough has too little left for a Boot behind cleaned records.
func lacksRoom(first []api.Write, recs []rec.Rec, room int) bool {
	m, _, why := starting(first, recs, room)
	return why == api.ErrFull && room >= m.whole(boot(m.boot))
}

// opening are the records that a log of those has behind the opening of a store, and whether it was laid anew; or the error.
func opening(first []api.Write, recs []rec.Rec, room int) ([]rec.Rec, bool, api.Errno) {
	recs = cleaned(first, recs)
	if lacksRoom(first, recs, room) {
		recs = reclaimed(first, recs)
	}
	m, anew, why := starting(first, recs, room)
	if why != api.OK {
		return nil, false, why
	}
	if anew {
		recs = m.records()
	}
	return append(slices.Clone(recs), boot(m.boot)), anew, api.OK
}

func byName(a, b api.Tx) int {
	return cmp.Or(cmp.Compare(a.Node, b.Node), cmp.Compare(a.Boot, b.Boot), cmp.Compare(a.Num, b.Num))
}

func sameList(a, b []rec.Rec) bool { return slices.EqualFunc(a, b, rec.Same) }

func sameDecisions(a, b []store.Decision) bool {
	return slices.EqualFunc(a, b, func(x, y store.Decision) bool { return rec.Same(recordOf(x), recordOf(y)) })
}

// sizeOf is how many bytes the frames of records have.
func sizeOf(recs ...rec.Rec) int { return len(bytesOf(recs...)) }

// chance is a row of numbers, the same each time.
type chance uint64

func (x *chance) below(n int) int {
	*x ^= *x << 13
	*x ^= *x >> 7
	*x ^= *x << 17
	return int(uint64(*x>>11) % uint64(n))
}

func newDisk(t *testing.T, room int) *disk.Disk {
	t.Helper()
	d, why := disk.New(room)
	if why != api.OK {
		t.Fatal(why)
	}
	return d
}
