package store_test

import (
	"slices"
	"testing"

	"parrel/api"
	"parrel/disk"
	"parrel/rec"
	"parrel/store"
)

// wholeIn is how many of a list's first records are whole in so many bytes of their frames.
func wholeIn(recs []rec.Rec, count int) int {
	for n := range recs {
		if sizeOf(recs[:n+1]...) > count {
			return n
		}
	}
	return len(recs)
}

// P16.4

// Of two Aborts and an End, that force nothing, and a Commit, that finds the power off, those stay whose records stay, in order.
func TestLossAtEachByte(t *testing.T) {
	first := writes("abcdef", 0, "")
	sure := []rec.Rec{boot(1), prepared(1, 1, writes("a", 1, "x")), prepared(2, 1, writes("b", 1, "x")), prepared(3, 1, writes("c", 1, "x")), decided(4, writes("d", 1, "x")), boot(2)}
	more := []rec.Rec{undone(1), ended(4), undone(3), done(2)}
	for keep := -1; keep <= sizeOf(more...)+1; keep++ {
		d := diskOf(t, 9000, sure[:len(sure)-1]...)
		s := opened(t, d, first)
		must(t, "Abort", s.Abort(tx(1)), api.OK)
		must(t, "End", s.End(tx(4)), api.OK)
		must(t, "Abort", s.Abort(tx(3)), api.OK)
		d.Arm(0)
		must(t, "Commit", s.Commit(tx(2)), api.ErrDown)
		lose(t, d, keep, keep%2 == 0)
		want := modelOf(first, slices.Concat(sure, more[:wholeIn(more, keep)], []rec.Rec{boot(3)})...)
		has(t, opened(t, d, first), want)
		lose(t, d, 0, false)
		want.boot++
		has(t, opened(t, d, first), want)
	}
}

// A record that is kept and finds the power off may be there, or not; the store itself does without it.
func TestLossOfWhatIsKept(t *testing.T) {
	for _, k := range keepers() {
		for _, keep := range []int{0, sizeOf(k.r) - 1, sizeOf(k.r)} {
			d := newDisk(t, 19999)
			s := opened(t, d, firstOf())
			d.Arm(0)
			must(t, "what is kept", k.call(s), api.ErrDown)
			want := modelOf(firstOf(), boot(1))
			has(t, s, want)
			lose(t, d, keep, false)
			if keep == sizeOf(k.r) {
				want.apply(k.r)
			}
			want.boot = 2
			has(t, opened(t, d, firstOf()), want)
		}
	}
}

// P16.5

// What each call answered is there behind any loss that comes then.
func TestWhatWasAnsweredStays(t *testing.T) {
	first := writes("abcdef", 0, "")
	steps := []struct {
		r    rec.Rec
		call func(s *store.Store) api.Errno
	}{
		{prepared(1, 1, writes("ab", 1, "x")), func(s *store.Store) api.Errno { return s.Prepare(tx(1), reg(1), writes("ab", 1, "x")) }},
		{decided(1, writes("ab", 1, "x")), func(s *store.Store) api.Errno { return s.Decide(decision(1, writes("ab", 1, "x"))) }},
		{done(1), func(s *store.Store) api.Errno { return s.Commit(tx(1)) }},
		{fresh("c", 5, "y"), func(s *store.Store) api.Errno { return s.Fresh(key("c"), of(5, "y")) }},
		{prepared(2, 1, writes("d", 1, "x")), func(s *store.Store) api.Errno { return s.Prepare(tx(2), reg(1), writes("d", 1, "x")) }},
		{prepared(3, 1, writes("e", 1, "x")), func(s *store.Store) api.Errno { return s.Prepare(tx(3), reg(1), writes("e", 1, "x")) }},
	}
	for _, often := range []bool{false, true} {
		d := newDisk(t, 9000)
		s := opened(t, d, first)
		recs := []rec.Rec{boot(1)}
		for n, x := range steps {
			must(t, "a step", x.call(s), api.OK)
			recs = append(recs, x.r)
			if often || n == len(steps)-1 {
				lose(t, d, -1, false)
				s = opened(t, d, first)
				recs = append(recs, boot(s.Boot()))
				has(t, s, modelOf(first, recs...))
			}
		}
	}
}

// P16.6

// Boots rise, whichever Force of an opening finds the power off, and whatever stays of it.
func TestBootsRise(t *testing.T) {
	first := writes("abc", 0, "")
	row := chance(77)
	for _, room := range []int{1500, 3400, 6000} {
		d, last := newDisk(t, room), uint32(0)
		for range 800 {
			d.Arm(row.below(6) - 2)
			s, why := store.Open(d, first)
			if why == api.OK {
				if s.Boot() <= last {
					t.Fatalf("%d came behind %d", s.Boot(), last)
				}
				last = s.Boot()
				s.Fresh(key("b"), of(last, "x"))
				s.Prepare(tx(last), reg(1), writes("a", 1, "x"))
				if row.below(3) > 0 {
					s.Abort(tx(last))
				}
				for _, x := range s.Staged() {
					if row.below(3) == 0 {
						s.Abort(x)
					}
				}
			}
			lose(t, d, row.below(200), row.below(2) == 0)
		}
		if last < 200 {
			t.Fatal(last)
		}
	}
}

// P16.7

// crowded is a disk of some room with a store, into which was put what it took, staged ones among it or not.
func crowded(t *testing.T, x *chance, room int, first []api.Write, staging bool) (*disk.Disk, *store.Store) {
	t.Helper()
	d := newDisk(t, room)
	s := opened(t, d, first)
	for misses, num := 0, uint32(1); misses < 40; num++ {
		at := x.below(len(first))
		k := first[at].Key
		i, _ := s.Item(k)
		i = of(i.Version+1, long(x.below(65)))
		kind := x.below(3)
		if !staging {
			kind = 1 + x.below(2)
		}
		var why api.Errno
		switch kind {
		case 0:
			why = s.Prepare(tx(num), reg(num), []api.Write{{Key: k, Item: i}})
		case 1:
			why = s.Decide(store.Decision{Tx: tx(num), Members: 1, Writes: []api.Write{{Key: k, Item: i}}, Missing: []uint64{1}})
		case 2:
			why = s.Fresh(k, i)
		}
		switch why {
		case api.ErrFull, api.ErrState:
			misses++
		case api.OK:
		default:
			t.Fatal(why)
		}
		if d.Left() < 20 {
			t.Fatal(d.Left())
		}
	}
	return d, s
}

// However full the disk is, all that is there can be ended, in any order, and the store be opened in between.
func TestAllCanBeEnded(t *testing.T) {
	row := chance(4242)
	for room := 3500; room < 20000; room += 250 {
		first := many(12, "")
		d, s := crowded(t, &row, room, first, true)
		for len(s.Staged()) > 0 || len(s.Decisions()) > 0 {
			if l := s.Staged(); len(l) > 0 {
				x := l[row.below(len(l))]
				if row.below(2) == 0 {
					must(t, "Commit", s.Commit(x), api.OK)
				} else {
					must(t, "Abort", s.Abort(x), api.OK)
				}
			}
			if l := s.Decisions(); len(l) > 0 {
				must(t, "End", s.End(l[row.below(len(l))].Tx), api.OK)
			}
			if row.below(4) == 0 {
				lose(t, d, row.below(60), row.below(2) == 0)
				s = opened(t, d, first)
			}
		}
		must(t, "Lay", s.Lay(), api.OK)
	}
}

// A full disk's store is opened again and again, though the power fails within the opening, at each Force, with each count of bytes that stay.
func TestOpeningsThatFail(t *testing.T) {
	row, lacks := chance(31), 0
	for room := 4000; room < 14000; room += 450 {
		first := many(30, "")
		// Without staged ones just 1024 bytes are spared, which is less than a great state's records have.
		d, s := crowded(t, &row, room, first, room%900 == 400)
		last := s.Boot()
		for range 12 {
			want := modelOf(first, recordsOn(t, d)...)
			if left := want.free(boot(last)) + row.below(40) - 20; d.Left() > left+100 {
				filled(t, d, left)
			}
			for range row.below(6) {
				d.Arm(row.below(3))
				if _, why := store.Open(d, first); why != api.OK && why != api.ErrDown {
					t.Fatalf("a room of %d, %d left: %v", room, d.Left(), why)
				}
				lose(t, d, row.below(5000), row.below(2) == 0)
			}
			had := recordsOn(t, d)
			if lacksRoom(first, cleaned(first, had), room) {
				lacks++
			}
			log, _, why := opening(first, had, room)
			must(t, "the keeping of a Boot", why, api.OK)
			s = opened(t, d, first)
			logHas(t, d, log...)
			if s.Boot() <= last {
				t.Fatalf("%d came behind %d", s.Boot(), last)
			}
			last = s.Boot()
			want.boot = last
			has(t, s, want)
		}
	}
	if lacks < 5 {
		t.Fatal(lacks)
	}
}

// Openings that fail time and again at the same Force, with all of their bytes there, or just the Boot, take the room from no later one.
func TestOpeningsThatFailTimeAndAgain(t *testing.T) {
	for _, count := range []int{6, 24} {
		for _, last := range []uint32{1, 126} {
			for _, fuses := range [][]int{{0}, {1}, {2}, {1, 0}, {0, 2, 1}} {
				first, recs := many(count, ""), []rec.Rec{boot(last)}
				for _, x := range first {
					recs = append(recs, rec.Rec{Kind: rec.Fresh, Key: x.Key, Item: of(1, long(64))})
				}
				size := sizeOf(recs...)
				for _, left := range []int{size, size + 1, size + 20, 2*size - 1, 2 * size, 2*size + 9, 2*size + 10, size + 1023} {
					for _, keep := range []int{mostRoom, sizeOf(boot(1)), sizeOf(recs[:3]...)} {
						d := diskOf(t, 9999, recs...)
						filled(t, d, min(left, size+1023))
						openedAgainstLosses(t, d, first, modelOf(first, recs...), fuses, keep)
					}
				}
			}
		}
	}
}

// openedAgainstLosses opens a store time and again, with those fuses, and lets so many bytes stay.
func openedAgainstLosses(t *testing.T, d *disk.Disk, first []api.Write, want *model, fuses []int, keep int) {
	t.Helper()
	for turn := range 12 {
		d.Arm(fuses[turn%len(fuses)])
		if _, why := store.Open(d, first); why != api.OK && why != api.ErrDown {
			t.Fatalf("the opening %d, %d left: %v", turn, d.Left(), why)
		}
		lose(t, d, keep, false)
	}
	s := opened(t, d, first)
	want.boot = s.Boot()
	has(t, s, want)
}

// greatState are records of a state that no others make of its first items.
func greatState(b uint32) ([]api.Write, []rec.Rec) {
	first, recs := many(30, ""), []rec.Rec{boot(b)}
	for _, x := range first {
		recs = append(recs, rec.Rec{Kind: rec.Fresh, Key: x.Key, Item: of(1, long(64))})
	}
	return first, recs
}

// An opening that is lost while it lays the log anew takes no room from the next one: what it laid goes, or what was there ahead of it.
func TestOpeningsThatAreLostWhileTheyLay(t *testing.T) {
	first, recs := greatState(1)
	_, laid := greatState(2)
	_, more := greatState(3)
	size := sizeOf(laid...)
	for n := range len(laid) + 1 {
		for _, left := range []int{size, size + 9, size + 10, size + 1023} {
			d := diskOf(t, 19999, recs...)
			filled(t, d, left)
			d.Arm(0)
			notOpened(t, d, first, api.ErrDown)
			lose(t, d, sizeOf(laid[:n]...), false)
			s := opened(t, d, first)
			want, b := laid, uint32(3)
			switch {
			case n == 0 || left-sizeOf(laid[:n]...) < size && n < len(laid):
				b = 2 // nobody was answered it
			case left-sizeOf(laid[:n]...) >= size:
				want = more
			}
			has(t, s, modelOf(first, append(slices.Clone(want), boot(b))...))
			logHas(t, d, append(slices.Clone(want), boot(b))...)
		}
	}
}

// What other records take is not had again, whatever Boots stand among them; nor is what would not be enough.
func TestRoomThatIsNotHadAgain(t *testing.T) {
	first, recs := greatState(1)
	_, laid := greatState(2)
	size := sizeOf(laid...)
	enough := 2*size + 1024
	for n, c := range []struct {
		room          int
		ahead, behind []rec.Rec
		left          int
	}{
		{enough + 9999, recs, nil, size - 1},
		{enough + 9999, recs, []rec.Rec{boot(2), undone(9)}, size - 1},
		{enough + 9999, recs, append([]rec.Rec{boot(2)}, laid[2:]...), size - 1},
		{enough + 9999, recs, append(slices.Clone(laid), laid[1]), size - 1},
		{enough + 9999, recs, []rec.Rec{boot(2), laid[1], laid[3]}, size - 1},
		{enough + 9999, append([]rec.Rec{boot(1)}, recs[2:]...), laid[:2], size - 1},
		{enough + 9999, recs, laid[:1], size - 1 - sizeOf(laid[0])},
		{enough + 9999, recs, laid[:9], size - 1 - sizeOf(laid[:9]...)},
		{enough - 1, recs, laid[:1], size - 5},
	} {
		d := diskOf(t, c.room, c.ahead...)
		filled(t, d, c.left+sizeOf(c.behind...))
		appended(t, d, c.behind...)
		was := seen(d)
		notOpened(t, d, first, api.ErrFull)
		stays(t, d, was)
		if d.Left() != c.left {
			t.Fatal(n, d.Left())
		}
	}
}

// P16.8

// Each error that a call may answer is answered, and nothing that can be told is another then.
func TestWhatIsRefusedTurnsNothing(t *testing.T) {
	first := firstOf()
	recs := []rec.Rec{boot(1), prepared(1, 1, writes("a", 1, "x")), decided(2, writes("b", 1, "x"))}
	for _, room := range []int{3400, 4200, mostRoom} {
		d := diskOf(t, room, recs...)
		s := opened(t, d, first)
		want := modelOf(first, append(slices.Clone(recs), boot(2))...)
		was := seen(d)
		for what, why := range map[string]api.Errno{
			"Prepare of no key":         s.Prepare(tx(3), reg(1), writes("g", 1, "")),
			"Prepare of an old item":    s.Prepare(tx(3), reg(1), writes("b", 0, "")),
			"Prepare of none":           s.Prepare(tx(3), reg(1), nil),
			"Prepare of another reg":    s.Prepare(tx(1), reg(2), writes("a", 1, "x")),
			"Prepare of one's key":      s.Prepare(tx(3), reg(2), writes("ab", 1, "x")),
			"Commit of none":            s.Commit(tx(2)),
			"Abort of none":             s.Abort(tx(2)),
			"Decide of what may not be": s.Decide(decision(0, writes("a", 1, "x"))),
			"Decide again":              s.Decide(decision(2, writes("b", 1, "x"))),
			"End of none":               s.End(tx(1)),
			"Fresh of no key":           s.Fresh(key("g"), of(1, "")),
			"Fresh of no item":          s.Fresh(key("a"), api.Item{}),
			"Fresh of another one":      s.Fresh(key("a"), of(0, "other")),
		} {
			if why == api.OK {
				t.Fatal(what)
			}
		}
		if room < mostRoom {
			big := decision(9, many(16, long(64)))
			must(t, "Decide without room", s.Decide(big), api.ErrFull)
			must(t, "Prepare without room", s.Prepare(tx(9), reg(1), many(9, long(64))), api.ErrOld)
			l := many(9, long(64))
			for n := range l {
				l[n].Item.Version = 1
			}
			must(t, "Prepare without room", s.Prepare(tx(9), reg(1), l), api.ErrFull)
		}
		stays(t, d, was)
		has(t, s, want)
	}
}

// walk is a row of steps at a store, and at the records that it was told of: all of them, and how many of them are there whatever comes.
type walk struct {
	t     *testing.T
	row   chance
	first []api.Write
	d     *disk.Disk
	s     *store.Store
	m     *model
	recs  []rec.Rec
	sure  int
	num   uint32
	boot  uint32
	log   []rec.Rec // what the disk has
	full  int
	anew  int
	lost  int
}

func newWalk(t *testing.T, seed int) *walk {
	w := &walk{t: t, row: chance(9000 + seed*31)}
	w.first = many(2+w.row.below(7), long(w.row.below(20)))
	w.d = newDisk(t, 4000+w.row.below(3000))
	w.s = opened(t, w.d, w.first)
	w.boot, w.m = 1, modelOf(w.first, boot(1))
	w.log = []rec.Rec{boot(1)}
	return w
}

func (w *walk) writes() []api.Write {
	var out []api.Write
	for _, x := range w.m.items {
		if w.row.below(4) == 0 && len(out) < 16 {
			out = append(out, api.Write{Key: x.Key, Item: of(x.Item.Version+uint32(w.row.below(3)), long(w.row.below(65)))})
		}
	}
	return out
}

func (w *walk) tx() api.Tx {
	if n := w.row.below(10); n < len(w.m.staged) {
		return w.m.staged[n].tx
	} else if n -= len(w.m.staged); n < len(w.m.decisions) {
		return w.m.decisions[n].Tx
	}
	w.num++
	return tx(w.num)
}

// refusal is what is answered ahead of the keeping of a record, and whether nothing more is done.
func (w *walk) refusal(r rec.Rec) (api.Errno, bool) {
	switch r.Kind {
	case rec.Prepared:
		for _, x := range r.Writes {
			if i, _ := w.m.item(x.Key); x.Item.Version <= i.Version {
				return api.ErrOld, true
			}
		}
		if len(r.Writes) == 0 {
			return api.ErrArg, true
		}
		_, there := w.m.work(r.Tx)
		why := w.m.putting(r.Tx, r.Reg, r.Writes)
		return why, there || why != api.OK
	case rec.Decided:
		if len(r.Writes) == 0 {
			return api.ErrArg, true
		}
		if w.m.isDecided(r.Tx) {
			return api.ErrThere, true
		}
	case rec.Fresh:
		i, _ := w.m.item(r.Key)
		if r.Item.Version < i.Version || r.Item == i {
			return api.OK, true
		}
		if r.Item.Version == i.Version {
			return api.ErrThere, true
		}
	}
	return api.OK, false
}

// keep is a step that keeps a record.
func (w *walk) keep(r rec.Rec, call func() api.Errno) {
	w.t.Helper()
	want, over := w.refusal(r)
	anew := false
	if !over {
		anew, want = w.m.keeping(r, w.d.Room(), w.d.Left())
	}
	fuse := w.row.below(60)
	w.d.Arm(fuse)
	why := call()
	w.d.Arm(-1)
	switch {
	case over || want != api.OK:
		must(w.t, "what is refused", why, want)
		if want == api.ErrFull {
			w.full++
		}
		return
	case fuse == 0 || anew && fuse < 3:
		must(w.t, "what is kept", why, api.ErrDown)
		w.recs = append(w.recs, r)
		w.loss()
		return
	case anew:
		w.log = w.m.records()
		w.anew++
	}
	must(w.t, "what is kept", why, api.OK)
	w.told(r, true)
}

// told is a record that the store has taken.
func (w *walk) told(r rec.Rec, forced bool) {
	w.m.apply(r)
	w.recs, w.log = append(w.recs, r), append(w.log, r)
	if forced {
		w.sure = len(w.recs)
	}
}

// end is a step that ends something.
func (w *walk) end(r rec.Rec, there, forced bool, call func() api.Errno) {
	w.t.Helper()
	fuse := w.row.below(60)
	w.d.Arm(fuse)
	why := call()
	w.d.Arm(-1)
	switch {
	case !there:
		must(w.t, "the end of none", why, api.ErrNone)
	case forced && fuse == 0:
		must(w.t, "an end", why, api.ErrDown)
		w.recs = append(w.recs, r)
		w.loss()
	default:
		must(w.t, "an end", why, api.OK)
		w.told(r, forced)
	}
}

func (w *walk) lay() {
	w.t.Helper()
	fuse := w.row.below(8)
	w.d.Arm(fuse)
	why := w.s.Lay()
	w.d.Arm(-1)
	if fuse < 2 {
		must(w.t, "Lay", why, api.ErrDown)
		w.loss()
		return
	}
	must(w.t, "Lay", why, api.OK)
	w.log, w.sure = w.m.records(), len(w.recs)
}

// loss is a loss of power, and the openings behind it, of which the last one is done: there is what the sure records made, or some of the others, too.
func (w *walk) loss() {
	w.t.Helper()
	w.lost++
	lose(w.t, w.d, w.row.below(pending(w.d)+2), w.row.below(2) == 0)
	for range w.row.below(3) {
		w.d.Arm(w.row.below(3))
		if s, why := store.Open(w.d, w.first); why == api.OK {
			w.boot = max(w.boot, s.Boot())
		} else if why != api.ErrDown {
			w.t.Fatal(why)
		}
		lose(w.t, w.d, w.row.below(pending(w.d)+2), w.row.below(2) == 0)
	}
	w.open()
}

func (w *walk) open() {
	w.t.Helper()
	had := recordsOn(w.t, w.d)
	now := modelOf(w.first, had...)
	at := slices.IndexFunc(slices.Collect(counts(w.sure, len(w.recs))), func(n int) bool { return now.same(modelOf(w.first, w.recs[:n]...)) })
	if at < 0 {
		w.t.Fatalf("%v is not what the first %d of these made, or more: %v", now, w.sure, w.recs)
	}
	log, laid, why := opening(w.first, had, w.d.Room())
	must(w.t, "the keeping of a Boot", why, api.OK)
	if laid {
		w.anew++
	}
	w.s = opened(w.t, w.d, w.first)
	if w.s.Boot() <= w.boot {
		w.t.Fatalf("%d came behind %d", w.s.Boot(), w.boot)
	}
	w.recs = w.recs[:w.sure+at]
	w.boot, w.sure, w.m, w.log = w.s.Boot(), len(w.recs), modelOf(w.first, log...), log
}

// counts are the numbers from one to another one.
func counts(from, to int) func(func(int) bool) {
	return func(yield func(int) bool) {
		for n := from; n <= to && yield(n); n++ {
		}
	}
}

func (w *walk) step() {
	w.t.Helper()
	x, l := w.tx(), w.writes()
	_, staged := w.m.work(x)
	switch w.row.below(15) {
	case 0, 1, 2:
		g := reg(uint32(1 + w.row.below(2)))
		w.keep(rec.Rec{Kind: rec.Prepared, Tx: x, Reg: g, Writes: l}, func() api.Errno { return w.s.Prepare(x, g, l) })
	case 3, 4, 5:
		w.end(rec.Rec{Kind: rec.Done, Tx: x}, staged, true, func() api.Errno { return w.s.Commit(x) })
	case 6, 7:
		w.end(rec.Rec{Kind: rec.Undone, Tx: x}, staged, false, func() api.Errno { return w.s.Abort(x) })
	case 8, 9:
		r := rec.Rec{Kind: rec.Decided, Tx: x, Members: 5, Writes: l, Missing: make([]uint64, len(l))}
		w.keep(r, func() api.Errno {
			return w.s.Decide(store.Decision{Tx: x, Members: 5, Writes: l, Missing: r.Missing})
		})
	case 10, 11:
		w.end(rec.Rec{Kind: rec.Ended, Tx: x}, w.m.isDecided(x), false, func() api.Errno { return w.s.End(x) })
	case 12:
		for _, y := range l {
			w.keep(rec.Rec{Kind: rec.Fresh, Key: y.Key, Item: y.Item}, func() api.Errno { return w.s.Fresh(y.Key, y.Item) })
		}
	case 13:
		if w.row.below(20) == 0 {
			w.lay()
		}
	case 14:
		if w.row.below(5) == 0 {
			w.loss()
		} else if w.row.below(2) == 0 {
			w.open()
		}
	}
}

// Over mixed steps, and losses within and between them, a store does what its records do, and has on its disk what the chapter tells.
func TestMixedSteps(t *testing.T) {
	full, anew, lost := 0, 0, 0
	for seed := range 40 {
		w := newWalk(t, seed)
		for range 400 {
			w.step()
			has(t, w.s, w.m)
			logHas(t, w.d, w.log...)
		}
		full, anew, lost = full+w.full, anew+w.anew, lost+w.lost
	}
	if full < 50 || anew < 50 || lost < 50 {
		t.Fatal(full, anew, lost)
	}
}

// The same steps do the same.
func TestTheSameStepsDoTheSame(t *testing.T) {
	for seed := range 5 {
		var want look
		for turn := range 3 {
			w := newWalk(t, 100+seed)
			for range 200 {
				w.step()
			}
			if turn == 0 {
				want = seen(w.d)
			}
			stays(t, w.d, want)
		}
	}
}
