package store_test

import (
	"slices"
	"testing"

	"parrel/api"
	"parrel/rec"
	"parrel/store"
)

// The chapter's words: to keep a record.

// kept are logs whose states have items, staged ones and decisions, few and many.
func kept() [][]rec.Rec {
	some := []rec.Rec{boot(1), fresh("a", 1, "x"), prepared(1, 1, writes("b", 1, "x")), prepared(2, 1, writes("cd", 1, long(64))), decided(3, writes("ab", 1, "x"))}
	var staged []rec.Rec
	for n := range uint32(9) {
		staged = append(staged, prepared(n+1, n+1, []api.Write{write("k"+string([]byte{byte(n + 1)}), 1, long(20))}))
	}
	return [][]rec.Rec{
		nil, {fresh("a", 1, "x")}, {boot(1)}, {boot(126)}, {boot(127)}, {boot(1 << 14)},
		some, some[:3], append([]rec.Rec{boot(1)}, staged...),
	}
}

func firstOf() []api.Write { return append(writes("abcdef", 0, "i"), many(9, long(9))...) }

// A Boot is counted with the boot that the store is to have.
func TestRoomOfBoots(t *testing.T) {
	for _, recs := range kept() {
		want := modelOf(firstOf(), recs...)
		want.boot++
		need := want.whole(boot(want.boot))
		if need != 2*sizeOf(want.records()...)+512*len(want.staged)+1024 {
			t.Fatal(need)
		}
		for _, room := range []int{need - 1, need, need + 1} {
			d := diskOf(t, room, recs...)
			if room >= need {
				has(t, opened(t, d, firstOf()), want)
				continue
			}
			was := seen(d)
			notOpened(t, d, firstOf(), api.ErrFull)
			notOpened(t, d, firstOf(), api.ErrFull)
			stays(t, d, was)
		}
	}
}

// What is left is asked ahead of a Boot, too: enough, too little, less than the state's records have.
func TestLeftForBoots(t *testing.T) {
	for _, recs := range kept()[1:] {
		want := modelOf(firstOf(), recs...)
		want.boot++
		size := sizeOf(want.records()...)
		free := want.free(boot(want.boot))
		if free != size+512*len(want.staged)+1024 {
			t.Fatal(free)
		}
		for _, left := range []int{free + 1, free, free - 1, size + 1, size, size - 1} {
			d := diskOf(t, 3*free+9999, recs...)
			filled(t, d, left)
			was, had := seen(d), recordsOn(t, d)
			if left < size {
				notOpened(t, d, firstOf(), api.ErrFull)
				stays(t, d, was)
				continue
			}
			has(t, opened(t, d, firstOf()), want)
			if left < free {
				had = want.records()
			}
			logHas(t, d, append(had, boot(want.boot))...)
			if first, sure := d.Forced(); first != d.Base() || sure != d.End() {
				t.Fatal("it is not forced")
			}
		}
	}
}

// What is laid begins with the new boot, however much is left.
func TestBootsThatAreLaid(t *testing.T) {
	for _, b := range []uint32{1, 126, 127, 128, most - 1} {
		for _, first := range [][]api.Write{writes("ab", 0, "i"), append(writes("a", 0, ""), many(40, long(64))...)} {
			want := modelOf(first, boot(b+1), fresh("a", 1, "x"))
			for _, left := range []int{sizeOf(want.records()...), want.free(boot(b+1)) - 1} {
				d := diskOf(t, 19999, boot(b), fresh("a", 1, "x"))
				filled(t, d, left)
				has(t, opened(t, d, first), want)
				logHas(t, d, append(want.records(), boot(b+1))...)
			}
		}
	}
}

// keeper is a call that keeps a record.
type keeper struct {
	r    rec.Rec
	call func(s *store.Store) api.Errno
}

// keepers are calls of each kind, with short records and long ones, of a store of the first items that kept has.
func keepers() []keeper {
	preparing := func(r rec.Rec) keeper {
		return keeper{r, func(s *store.Store) api.Errno { return s.Prepare(r.Tx, r.Reg, r.Writes) }}
	}
	deciding := func(r rec.Rec) keeper {
		return keeper{r, func(s *store.Store) api.Errno {
			return s.Decide(store.Decision{Tx: r.Tx, Members: r.Members, Writes: r.Writes, Missing: r.Missing})
		}}
	}
	freshly := func(r rec.Rec) keeper {
		return keeper{r, func(s *store.Store) api.Errno { return s.Fresh(r.Key, r.Item) }}
	}
	return []keeper{
		preparing(prepared(50, 1, writes("e", 1, ""))), preparing(prepared(most, most, writes("ef", most, long(64)))),
		deciding(decided(50, writes("e", 1, ""))), deciding(decided(most, many(16, long(64)))),
		freshly(fresh("f", 1, "")), freshly(fresh("a", most, long(64))),
	}
}

func TestRoomOfOthers(t *testing.T) {
	for _, recs := range kept() {
		for _, k := range keepers() {
			want := modelOf(firstOf(), recs...)
			want.boot++
			need := want.whole(k.r)
			if need != 2*sizeOf(want.records()...)+512*len(want.staged)+4*sizeOf(k.r)+2048 {
				t.Fatal(need)
			}
			for _, room := range []int{need - 1, need, need + 1} {
				d := diskOf(t, room, recs...)
				s := opened(t, d, firstOf())
				was := seen(d)
				if room < need {
					must(t, "what is kept", k.call(s), api.ErrFull)
					must(t, "what is kept", k.call(s), api.ErrFull)
					stays(t, d, was)
					has(t, s, want)
					continue
				}
				must(t, "what is kept", k.call(s), api.OK)
				after := want.copied()
				after.apply(k.r)
				has(t, s, after)
			}
		}
	}
}

// With just enough left a record comes behind the others; with less the log is laid anew ahead of it, without it; with less than that needs it is refused.
func TestLeftForOthers(t *testing.T) {
	for _, recs := range kept()[1:] {
		for _, k := range keepers() {
			want := modelOf(firstOf(), recs...)
			want.boot++
			size := sizeOf(want.records()...)
			free := want.free(k.r)
			if free != size+512*len(want.staged)+1024+2*sizeOf(k.r) {
				t.Fatal(free)
			}
			for _, left := range []int{free + 1, free, free - 1, size + 1, size, size - 1} {
				d := diskOf(t, 3*free+9999, recs...)
				s := opened(t, d, firstOf())
				filled(t, d, left)
				was, had := seen(d), recordsOn(t, d)
				if left < size {
					must(t, "what is kept", k.call(s), api.ErrFull)
					stays(t, d, was)
					has(t, s, want)
					continue
				}
				if left < free {
					had = want.records()
				}
				must(t, "what is kept", k.call(s), api.OK)
				logHas(t, d, append(had, k.r)...)
				after := want.copied()
				after.apply(k.r)
				has(t, s, after)
				if first, sure := d.Forced(); first != d.Base() || sure != d.End() {
					t.Fatal("it is not forced")
				}
			}
		}
	}
}

// That it is full is told ahead of that the power is off.
func TestFullWithoutPower(t *testing.T) {
	for _, k := range keepers() {
		d := newDisk(t, modelOf(firstOf(), boot(1)).whole(k.r)-1)
		s := opened(t, d, firstOf())
		must(t, "Fail", d.Fail(), api.OK)
		must(t, "what is kept", k.call(s), api.ErrFull)

		d = newDisk(t, 19999)
		s = opened(t, d, firstOf())
		filled(t, d, sizeOf(modelOf(firstOf(), boot(1)).records()...)-1)
		must(t, "Fail", d.Fail(), api.OK)
		must(t, "what is kept", k.call(s), api.ErrFull)

		d = newDisk(t, 19999)
		s = opened(t, d, firstOf())
		must(t, "Fail", d.Fail(), api.OK)
		must(t, "what is kept", k.call(s), api.ErrDown)
	}
}

// Whichever Force finds the power off ends what is kept: then nothing of it is there for the store.
func TestKeepingWithoutForces(t *testing.T) {
	for _, k := range keepers() {
		want := modelOf(firstOf(), boot(1))
		for _, left := range []int{want.free(k.r), want.free(k.r) - 1} {
			forces := 1
			if left < want.free(k.r) {
				forces = 3
			}
			for fuse := range forces + 1 {
				d := newDisk(t, 29999)
				s := opened(t, d, firstOf())
				filled(t, d, left)
				d.Arm(fuse)
				why, m := k.call(s), want.copied()
				if fuse < forces {
					must(t, "what is kept", why, api.ErrDown)
					has(t, s, m)
					continue
				}
				must(t, "what is kept", why, api.OK)
				m.apply(k.r)
				has(t, s, m)
			}
		}
	}
}

// A Commit, an Abort and an End ask for no room but their own.
func TestEndingOnAFullDisk(t *testing.T) {
	recs := []rec.Rec{boot(1), prepared(1, 1, writes("a", 1, "x")), decided(2, writes("b", 1, "x"))}
	for _, c := range []struct {
		r      rec.Rec
		forced bool
		call   func(s *store.Store) api.Errno
	}{
		{done(1), true, func(s *store.Store) api.Errno { return s.Commit(tx(1)) }},
		{undone(1), false, func(s *store.Store) api.Errno { return s.Abort(tx(1)) }},
		{ended(2), false, func(s *store.Store) api.Errno { return s.End(tx(2)) }},
	} {
		for _, left := range []int{sizeOf(c.r), sizeOf(c.r) - 1} {
			d := diskOf(t, 9000, recs...)
			s := opened(t, d, firstOf())
			filled(t, d, left)
			was, want := seen(d), modelOf(firstOf(), recordsOn(t, d)...)
			if left < sizeOf(c.r) {
				must(t, "the end", c.call(s), api.ErrFull)
				stays(t, d, was)
			} else {
				must(t, "the end", c.call(s), api.OK)
				want.apply(c.r)
			}
			has(t, s, want)
			if got := pending(d) == 0; got != c.forced && left == sizeOf(c.r) {
				t.Fatal(c.r, pending(d))
			}
		}
		d := diskOf(t, 9000, recs...)
		s := opened(t, d, firstOf())
		want := modelOf(firstOf(), recordsOn(t, d)...)
		d.Arm(0)
		if c.forced {
			must(t, "the end", c.call(s), api.ErrDown)
		} else {
			must(t, "the end", c.call(s), api.OK)
			want.apply(c.r)
		}
		has(t, s, want)
	}
}

// The chapter's words: to clean a log.

// cleaning is a log as it is found, and as it is when the store is opened, but for the Boot behind; and whether records ahead were dropped.
type cleaning struct {
	what      string
	had, want []rec.Rec
	drops     bool
}

func cleanings() []cleaning {
	one, two, three := fresh("a", 1, "x"), fresh("b", 1, "x"), fresh("c", 1, "x")
	staged, other := prepared(1, 1, writes("d", 1, "x")), prepared(1, 2, writes("d", 1, "x"))
	more := prepared(1, 1, writes("de", 1, "x"))
	plan, plans := decided(2, writes("e", 1, "x")), decided(2, writes("e", 2, "x"))
	list := func(l ...rec.Rec) []rec.Rec { return l }
	return []cleaning{
		{"nothing", nil, nil, false},
		{"one boot", list(boot(1), one), list(boot(1), one), false},
		{"two boots", list(boot(1), one, boot(2), one), list(boot(1), one, boot(2), one), false},
		{"all of it twice", list(boot(1), one, boot(1), one), list(boot(1), one), true},
		{"all of it, and more behind", list(boot(1), one, boot(1), one, two), list(boot(1), one, two), true},
		{"more ahead, some of it twice", list(boot(1), one, two, boot(1), one), list(boot(1), one, two), false},
		{"just a boot twice", list(boot(1), one, boot(1)), list(boot(1), one), false},
		{"nothing but boots", list(boot(1), boot(1), boot(1)), list(boot(1)), true},
		{"no more than the first items", list(boot(1), fresh("a", 0, "i"), boot(1)), list(boot(1)), true},
		{"what was overtaken", list(boot(1), fresh("b", 1, "x"), fresh("a", 1, "x"), boot(1), fresh("a", 1, "x"), fresh("b", 2, "y")), list(boot(1), fresh("a", 1, "x"), fresh("b", 2, "y")), true},
		{"something in each", list(boot(1), one, boot(1), two), list(boot(1), one, boot(1), two), false},
		{"the last one of several", list(boot(1), one, boot(1), one, two, boot(1), one, two), list(boot(1), one, two), true},
		{"the last one that tells the boot", list(boot(3), one, boot(3), one, boot(4)), list(boot(3), one, boot(4)), true},
		{"a boot that falls", list(boot(3), one, boot(2), one), list(boot(3), one, boot(2), one), false},
		{"a boot that was another one's", list(boot(3), one, boot(2), boot(3), one), list(boot(3), one, boot(2), boot(3), one), false},
		{"staged ones", list(boot(1), three, staged, boot(1), three, staged), list(boot(1), three, staged), true},
		{"half of the staged ones", list(boot(1), three, staged, boot(1), three), list(boot(1), three, staged), false},
		{"another reg", list(boot(1), staged, boot(1), other), list(boot(1), staged), false},
		{"other writes", list(boot(1), staged, boot(1), more), list(boot(1), staged), false},
		{"one that was undone", list(boot(1), staged, undone(1), boot(1)), list(boot(1)), true},
		{"one that is undone behind", list(boot(1), staged, boot(1), undone(1)), list(boot(1), undone(1)), true},
		{"one that is done behind", list(boot(1), staged, boot(1), staged, done(1)), list(boot(1), staged, done(1)), true},
		{"decisions", list(boot(1), one, plan, boot(1), one, plan), list(boot(1), one, plan), true},
		{"a decision ahead", list(boot(1), one, plan, boot(1), one), list(boot(1), one, plan), false},
		{"a decision behind", list(boot(1), one, boot(1), one, plan), list(boot(1), one, plan), true},
		{"another decision", list(boot(1), plan, boot(1), plans), list(boot(1), plan), false},
		{"a decision that ended", list(boot(1), one, plan, ended(2), boot(1), one), list(boot(1), one), true},
	}
}

func TestCleaning(t *testing.T) {
	for _, c := range cleanings() {
		if got := cleaned(firstOf(), c.had); !sameList(got, c.want) {
			t.Fatalf("%s: the model has %v", c.what, got)
		}
		d := diskOf(t, mostRoom, c.had...)
		want := modelOf(firstOf(), c.had...)
		want.boot++
		has(t, opened(t, d, firstOf()), want)
		if got := recordsOn(t, d); !sameList(got, append(slices.Clone(c.want), boot(want.boot))) {
			t.Fatalf("%s: %v", c.what, got)
		}
		if first, sure := d.Forced(); first != d.Base() || sure != d.End() {
			t.Fatalf("%s: it is not forced", c.what)
		}
	}
}

// What is dropped is forced, by a Force of its own, which may find the power off; what is trimmed needs none.
func TestCleaningWithoutForces(t *testing.T) {
	for _, c := range cleanings() {
		for _, cut := range []bool{false, true} {
			d := diskOf(t, mostRoom, c.had...)
			d.Arm(0)
			notOpened(t, d, firstOf(), api.ErrDown)
			lose(t, d, 0, cut)
			left := c.want
			if c.drops && !cut {
				left = c.had
			}
			if got := recordsOn(t, d); !sameList(got, left) {
				t.Fatalf("%s, cut %v: %v", c.what, cut, got)
			}
			d.Arm(1)
			if s, why := store.Open(d, firstOf()); (why == api.OK) != (!c.drops || cut) || (s == nil) != (why != api.OK) {
				t.Fatalf("%s, cut %v: %v", c.what, cut, why)
			}
		}
	}
}

// A boot that a store had is not trimmed away, though the records ahead of it make the same of all else: or else a loss behind that would let it come again.
func TestCleaningKeepsBoots(t *testing.T) {
	for _, recs := range [][]rec.Rec{
		{boot(1), fresh("a", 1, "x"), boot(1), prepared(1, 1, writes("b", 1, "x")), boot(2), undone(1)},
		{boot(1), fresh("a", 1, "x"), boot(1), boot(2)},
	} {
		d := diskOf(t, mostRoom, recs...)
		for range 3 {
			d.Arm(0)
			notOpened(t, d, firstOf(), api.ErrDown)
			lose(t, d, 0, false)
			logHas(t, d, recs...)
		}
		if got := opened(t, d, firstOf()).Boot(); got != 3 {
			t.Fatal(got)
		}
	}
}

// A log that is full of records that stand there twice has room again.
func TestCleaningMakesRoom(t *testing.T) {
	first := writes("a", 0, "")
	for _, twice := range []bool{false, true} {
		recs := []rec.Rec{boot(1), fresh("a", 1, "x")}
		d := diskOf(t, 3000, recs...)
		if twice {
			filled(t, d, sizeOf(recs...)+20)
			appended(t, d, recs...)
			filled(t, d, 5)
			has(t, opened(t, d, first), modelOf(first, boot(2), fresh("a", 1, "x")))
			if d.Left() < 2800 {
				t.Fatal(d.Left())
			}
			continue
		}
		filled(t, d, 5)
		notOpened(t, d, first, api.ErrFull)
	}
}

// However a laying ends that Lay began, one of both halves goes, and just the other one is left.
func TestCleaningBehindALay(t *testing.T) {
	first := writes("abcd", 0, "i")
	recs := []rec.Rec{boot(1), fresh("a", 1, "x"), prepared(1, 1, writes("bc", 1, "x")), decided(2, writes("d", 1, "x"))}
	want := modelOf(first, append(slices.Clone(recs), boot(3))...)
	laid := append([]rec.Rec{boot(2)}, want.records()[1:]...)
	for keep := range sizeOf(laid...) + 2 {
		for _, fuse := range []int{0, 1} {
			for _, cut := range []bool{false, true} {
				d := diskOf(t, 6000, recs...)
				s := opened(t, d, first)
				filled(t, d, want.free(boot(3))+20)
				had := recordsOn(t, d)
				d.Arm(fuse)
				must(t, "Lay", s.Lay(), api.ErrDown)
				lose(t, d, keep, cut)
				has(t, opened(t, d, first), want)
				if fuse == 1 || keep >= sizeOf(laid...) {
					had = laid
				}
				logHas(t, d, append(had, boot(3))...)
			}
		}
	}
}
