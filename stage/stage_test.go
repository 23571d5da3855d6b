package stage_test

import (
	"slices"
	"testing"

	"parrel/api"
	"parrel/stage"
)

// Example 1 of the chapter.
func TestExample(t *testing.T) {
	s := stage.New()
	must(t, "Put", s.Put(tx(1, 1, 1), reg(1, 1), writes("a", "x")), api.OK)
	owned(t, s, api.Key{'a'}, tx(1, 1, 1))
}

// P14.1

func TestNew(t *testing.T) {
	x, y := stage.New(), stage.New()
	if x == nil || y == nil || x == y {
		t.Fatal(x, y)
	}
	has(t, x)
	must(t, "Put", x.Put(tx(1, 1, 1), reg(1, 1), writes("a", "x")), api.OK)
	has(t, y)
	hasNot(t, y, tx(1, 1, 1))
	free(t, y, api.Key{'a'})
}

func TestPut(t *testing.T) {
	for _, x := range goodTxs() {
		for _, g := range goodRegs() {
			for _, l := range goodLists() {
				s := stageOf(t, entry{x, g, l})
				has(t, s, entry{x, g, l})
				must(t, "Put again", s.Put(x, g, slices.Clone(l)), api.OK)
				has(t, s, entry{x, g, l})
			}
		}
	}
}

// What may not be is refused ahead of all else: in an empty stage, a full one, and of a transaction that is there.
func TestPutOfWhatMayNotBe(t *testing.T) {
	there := entry{tx(1, 1, 1), reg(1, 1), writes("az", "x")}
	empty, one, all := stage.New(), stageOf(t, there), stageOf(t, full()...)
	refused := func(x api.Tx, g api.Reg, l []api.Write) {
		t.Helper()
		must(t, "Put into an empty one", empty.Put(x, g, l), api.ErrArg)
		must(t, "Put where one is", one.Put(x, g, l), api.ErrArg)
		must(t, "Put into a full one", all.Put(x, g, l), api.ErrArg)
	}
	for _, x := range badTxs() {
		refused(x, reg(1, 1), writes("c", ""))
		refused(x, reg(1, 1), writes("az", "x"))
		refused(x, reg(0, 0), nil)
	}
	for _, x := range append(goodTxs(), there.tx) {
		for _, g := range badRegs() {
			refused(x, g, writes("c", ""))
			refused(x, g, writes("az", "x"))
		}
		for _, l := range badLists() {
			refused(x, reg(1, 1), l)
			refused(x, reg(9, 9), l)
		}
	}
	has(t, empty)
	has(t, one, there)
	has(t, all, full()...)
	for c := range 256 {
		free(t, empty, api.Key{byte(c)})
		if c != 'a' && c != 'z' {
			free(t, one, api.Key{byte(c)})
		}
	}
}

// Of one that is there each other reg, and each other list, is refused, though its keys be its own or nobody's.
func TestPutOfOneThatIsThere(t *testing.T) {
	list, others := otherLists()
	there := entry{tx(1, 1, 1), reg(5, 6), list}
	for _, l := range others {
		s := stageOf(t, there)
		must(t, "Put of other writes", s.Put(there.tx, there.reg, l), api.ErrThere)
		must(t, "Put of another reg and other writes", s.Put(there.tx, reg(5, 7), l), api.ErrThere)
		must(t, "Put of the same", s.Put(there.tx, there.reg, list), api.OK)
		has(t, s, there)
		free(t, s, api.Key{'a'}, api.Key{'c'}, api.Key{'e'}, api.Key{'b', 'b'})

		s = stageOf(t, entry{there.tx, there.reg, l})
		must(t, "Put the other way round", s.Put(there.tx, there.reg, list), api.ErrThere)
		has(t, s, entry{there.tx, there.reg, l})
	}
	s := stageOf(t, there)
	for _, g := range append(goodRegs(), reg(5, 5), reg(6, 6), reg(6, 5)) {
		must(t, "Put of another reg", s.Put(there.tx, g, list), api.ErrThere)
	}
	has(t, s, there)
}

// That a transaction is there is told ahead of whose the keys are, and of how many there are.
func TestPutOfOneThatIsThereComesFirst(t *testing.T) {
	list := full()
	s := stageOf(t, list...)
	for n, e := range list {
		other := list[(n+1)%len(list)]
		must(t, "Put of the same", s.Put(e.tx, e.reg, e.writes), api.OK)
		must(t, "Put of another one's key", s.Put(e.tx, e.reg, other.writes), api.ErrThere)
		must(t, "Put of another one's reg", s.Put(e.tx, other.reg, e.writes), api.ErrThere)
		must(t, "Put of a new key", s.Put(e.tx, e.reg, writes("a", "")), api.ErrThere)
	}
	has(t, s, list...)
}

// One key that another one writes is enough, wherever it stands in both lists.
func TestPutOfAKeyThatIsWritten(t *testing.T) {
	keys := "abcdefghijklmnop"
	there := entry{tx(3, 3, 3), reg(3, 3), writes(keys, "x")}
	for at := range len(keys) {
		var l []api.Write
		for n := range len(keys) {
			k := api.Key{keys[n], 1}
			if n == at {
				k = api.Key{keys[n]}
			}
			l = append(l, api.Write{Key: k, Item: of(1, "x")})
		}
		s := stageOf(t, there)
		for _, x := range goodTxs() {
			must(t, "Put of one of its keys", s.Put(x, reg(3, 3), l), api.ErrState)
			must(t, "Put of that key alone", s.Put(x, reg(3, 3), l[at:at+1]), api.ErrState)
			hasNot(t, s, x)
		}
		must(t, "Put of all of its keys", s.Put(tx(1, 1, 1), there.reg, there.writes), api.ErrState)
		has(t, s, there)
		for n, w := range l {
			if n != at {
				free(t, s, w.Key)
			}
		}
		must(t, "Put of the others", s.Put(tx(1, 1, 1), reg(3, 3), slices.Delete(l, at, at+1)), api.OK)
		has(t, s, entry{tx(1, 1, 1), reg(3, 3), l[:len(keys)-1]}, there)
	}
}

// Names that are alike but for one field are of two transactions, as are keys that begin alike.
func TestPutOfSeveral(t *testing.T) {
	list := []entry{
		{tx(0, 1, 1), reg(1, 1), writes("abc", "x")},
		{tx(0, 1, 2), reg(1, 1), writes("df", "x")},
		{tx(0, 2, 1), reg(1, 1), []api.Write{{Key: api.Key{'a', 'a'}, Item: of(1, "x")}}},
		{tx(1, 1, 1), reg(1, 1), writes("e", "x")},
		{tx(2, 1, 1), reg(2, 2), writes("ghijklmnopqrstuv", "x")},
	}
	row := chance(3)
	for range 100 {
		has(t, stageOf(t, shuffled(&row, list)...), list...)
	}
}

func TestPutOfVeryMany(t *testing.T) {
	list := full()
	s := stage.New()
	for n, e := range list {
		must(t, "Put", s.Put(e.tx, e.reg, e.writes), api.OK)
		if got := len(s.All()); got != n+1 {
			t.Fatal(got)
		}
	}
	for _, x := range []api.Tx{tx(7, 9, 9), tx(0, 1, 99), tx(7, most, most)} {
		must(t, "Put of one more", s.Put(x, reg(1, 1), writes("a", "")), api.ErrMany)
		must(t, "Put of one more", s.Put(x, reg(1, 1), writes("abcdefghijklmnop", "")), api.ErrMany)
		must(t, "Put of one more, of a key that is written", s.Put(x, reg(1, 1), list[9].writes), api.ErrState)
		hasNot(t, s, x)
	}
	free(t, s, api.Key{'a'}, api.Key{'p'})
	has(t, s, list...)
	taken(t, s, list[9].tx, list[9].writes)
	must(t, "Put in its place", s.Put(tx(7, 9, 9), reg(1, 1), list[9].writes), api.OK)
	must(t, "Put of one more", s.Put(list[9].tx, reg(1, 1), writes("a", "")), api.ErrMany)
}

// It is transactions that are counted, not keys.
func TestPutOfVeryManyKeys(t *testing.T) {
	s := stage.New()
	var want []entry
	for n := range mostPrepared {
		var l []api.Write
		for m := range mostWrites {
			l = append(l, api.Write{Key: api.Key{'k', byte(n + 1), byte(m + 1)}, Item: of(uint32(m), "x")})
		}
		want = append(want, entry{tx(1, 1, uint32(n+1)), reg(1, 1), l})
		must(t, "Put", s.Put(tx(1, 1, uint32(n+1)), reg(1, 1), l), api.OK)
	}
	has(t, s, want...)
	must(t, "Put of one more", s.Put(tx(1, 1, 99), reg(1, 1), writes("a", "")), api.ErrMany)
}

func TestTake(t *testing.T) {
	for _, l := range goodLists() {
		here := entry{tx(2, 2, 2), reg(4, 4), []api.Write{{Key: api.Key{'Z', 'Z'}, Item: of(1, "x")}}}
		s := stageOf(t, entry{tx(1, 1, 1), reg(3, 3), l}, here)
		taken(t, s, tx(1, 1, 1), l)
		has(t, s, here)
		hasNot(t, s, tx(1, 1, 1))
		for _, w := range l {
			free(t, s, w.Key)
		}
		notTaken(t, s, tx(1, 1, 1), api.ErrNone)
		has(t, s, here)

		must(t, "Put of another one", s.Put(tx(0, 9, 9), reg(9, 9), l), api.OK)
		must(t, "Put of the one that went", s.Put(tx(1, 1, 1), reg(3, 3), l), api.ErrState)
		has(t, s, entry{tx(0, 9, 9), reg(9, 9), l}, here)
		taken(t, s, tx(0, 9, 9), l)
		must(t, "Put with another reg", s.Put(tx(1, 1, 1), reg(9, 9), l), api.OK)
		has(t, s, entry{tx(1, 1, 1), reg(9, 9), l}, here)
	}
}

func TestTakeOfNone(t *testing.T) {
	there := entry{tx(3, 3, 3), reg(3, 3), writes("a", "x")}
	s := stageOf(t, there)
	for _, x := range append(goodTxs(), badTxs()...) {
		notTaken(t, stage.New(), x, api.ErrNone)
		notTaken(t, s, x, api.ErrNone)
	}
	for _, x := range []api.Tx{tx(2, 3, 3), tx(4, 3, 3), tx(3, 2, 3), tx(3, 4, 3), tx(3, 3, 2), tx(3, 3, 4)} {
		notTaken(t, s, x, api.ErrNone)
	}
	has(t, s, there)
}

// P14.2

func TestWritesOfNone(t *testing.T) {
	there := entry{tx(3, 3, 3), reg(3, 3), writes("a", "x")}
	s := stageOf(t, there)
	for _, x := range append(append(goodTxs(), badTxs()...), tx(2, 3, 3), tx(3, 4, 3), tx(3, 3, 4)) {
		hasNot(t, s, x)
		hasNot(t, stage.New(), x)
	}
	has(t, s, there)
}

func TestOwnerOfNoKey(t *testing.T) {
	there := entry{tx(3, 3, 3), reg(3, 3), writes("ac", "x")}
	s := stageOf(t, there)
	for _, k := range []api.Key{
		{}, {'b'}, {'a', 'a'}, {'a', 0, 'a'}, {0, 'a'}, {'c', 1}, {'c', 0, 0, 0, 0, 0, 0, 1}, {255},
		{255, 255, 255, 255, 255, 255, 255, 255},
	} {
		free(t, s, k)
		free(t, stage.New(), k)
	}
	has(t, s, there)
}

// However they came, all are told rising.
func TestAllRises(t *testing.T) {
	var want []entry
	for n, x := range goodTxs() {
		want = append(want, entry{x, reg(1, 1), []api.Write{{Key: api.Key{'k', byte(99 - n)}, Item: of(1, "x")}}})
	}
	row := chance(5)
	for range 200 {
		has(t, stageOf(t, shuffled(&row, want)...), want...)
	}
	for range 50 {
		has(t, stageOf(t, shuffled(&row, full())...), full()...)
	}
}

func TestStagesThatNobodyGave(t *testing.T) {
	for _, s := range []*stage.Stage{nil, {}, new(stage.Stage)} {
		for range 2 {
			for _, x := range append(goodTxs(), badTxs()...) {
				for _, l := range append(goodLists(), badLists()...) {
					must(t, "Put", s.Put(x, reg(1, 1), l), api.ErrNil)
					must(t, "Put", s.Put(x, reg(0, 0), l), api.ErrNil)
				}
				notTaken(t, s, x, api.ErrNil)
				hasNot(t, s, x)
			}
			free(t, s, api.Key{'a'}, api.Key{})
			has(t, s)
		}
	}
}

// R4

// What is handed in is neither written into nor kept.
func TestListsThatAreHandedIn(t *testing.T) {
	for _, l := range append(goodLists(), badLists()...) {
		was := slices.Clone(l)
		s := stage.New()
		s.Put(tx(1, 1, 1), reg(1, 1), l)
		s.Put(tx(1, 1, 1), reg(1, 1), l)
		s.Put(tx(1, 1, 2), reg(1, 1), l)
		s.Take(tx(1, 1, 1))
		if !slices.Equal(l, was) {
			t.Fatalf("it wrote into what it was handed: %v; it was %v", l, was)
		}
	}
	l := writes("abc", "x")
	there := entry{tx(1, 1, 1), reg(1, 1), slices.Clone(l)}
	s := stage.New()
	must(t, "Put", s.Put(there.tx, there.reg, l[:2:3]), api.OK)
	there.writes = there.writes[:2]
	l[0], l[1] = write('q', "y"), write('r', "y")
	has(t, s, there)
	free(t, s, api.Key{'q'}, api.Key{'r'}, api.Key{'c'})
	clear(l)
	must(t, "Put of the same", s.Put(there.tx, there.reg, writes("ab", "x")), api.OK)
	taken(t, s, there.tx, there.writes)
	free(t, s, api.Key{'a'}, api.Key{'b'})
}

func TestListsAreTheCallers(t *testing.T) {
	list := []entry{{tx(1, 1, 1), reg(1, 1), writes("ab", "x")}, {tx(1, 1, 2), reg(1, 2), writes("cd", "x")}}
	s := stageOf(t, list...)
	one, _, _ := s.Writes(list[0].tx)
	two, _, _ := s.Writes(list[0].tx)
	clear(one)
	one = append(one[:1], write('z', "z"))
	if !slices.Equal(two, list[0].writes) {
		t.Fatal(two, one)
	}
	names := s.All()
	clear(names)
	has(t, s, list...)

	kept, _, _ := s.Writes(list[1].tx)
	got, why := s.Take(list[1].tx)
	must(t, "Take", why, api.OK)
	clear(got)
	if !slices.Equal(kept, list[1].writes) {
		t.Fatal(kept)
	}
	must(t, "Put again", s.Put(list[1].tx, list[1].reg, list[1].writes), api.OK)
	clear(kept)
	got = append(got[:1], write('z', "z"))
	has(t, s, list...)
}
