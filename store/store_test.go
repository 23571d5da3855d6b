package store_test

import (
	"slices"
	"testing"

	"parrel/api"
	"parrel/disk"
	"parrel/rec"
	"parrel/store"
)

// Example 1 of the chapter.
func TestExample(t *testing.T) {
	d, first := newDisk(t, 5000), writes("a", 0, "")
	s := opened(t, d, first)
	must(t, "Prepare", s.Prepare(tx(1), reg(1), writes("a", 1, "x")), api.OK)
	must(t, "Commit", s.Commit(tx(1)), api.OK)
	s = opened(t, d, first)
	has(t, s, modelOf(writes("a", 1, "x"), boot(2)))
}

// P16.1

func TestOpenOfAnEmptyDisk(t *testing.T) {
	for _, first := range [][]api.Write{
		nil, {}, writes("a", 0, ""), writes("az", 7, "x"), writes("zca", most, long(64)), many(mostKeys, "v"),
		// A key may stand there again, if it is newer, or the same.
		slices.Concat(writes("a", 0, ""), writes("b", 1, "x"), writes("a", 3, "y"), writes("b", 1, "x")),
	} {
		d := newDisk(t, mostRoom)
		s := opened(t, d, first)
		has(t, s, modelOf(first, boot(1)))
		logHas(t, d, boot(1))
		if pending(d) != 0 {
			t.Fatal("the boot is not forced")
		}
	}
}

func TestOpenWithoutADisk(t *testing.T) {
	bad := writes("a", most+1, "")
	for _, first := range [][]api.Write{nil, writes("a", 0, ""), bad} {
		notOpened(t, nil, first, api.ErrNil)
		notOpened(t, &disk.Disk{}, first, api.ErrNil)
		d := diskOf(t, 5000, boot(1), boot(2))
		must(t, "Fail", d.Fail(), api.OK)
		was := seen(d)
		notOpened(t, d, first, api.ErrDown)
		stays(t, d, was)
	}
}

func TestOpenWithFirstItemsThatMayNotBe(t *testing.T) {
	for _, first := range [][]api.Write{
		{{}}, {{Key: key("a")}}, {{Item: of(0, "")}},
		writes("a", most+1, ""), writes("a", 0, long(65)),
		{{Key: api.Key{0, 'a'}, Item: of(0, "")}}, {{Key: api.Key{'a', 0, 'b'}, Item: of(0, "")}},
		{{Key: key("a"), Item: api.Item{Conf: api.Config{Epoch: 1, R: 1, W: 1, Votes: [8]uint8{1, 1}}}}},
		append(writes("abc", 0, ""), api.Write{}),
		append(writes("abc", 5, "x"), write("b", 5, "y")),
		append(writes("abc", 5, "x"), write("b", 4, "x")),
		many(mostKeys+1, ""), many(255, ""),
	} {
		for _, recs := range [][]rec.Rec{nil, {boot(1)}, {boot(most)}, {boot(1), fresh("a", 1, "x"), boot(1)}} {
			for _, room := range []int{100, 5000} {
				d := diskOf(t, room, recs...)
				d.Append([]byte{0xA7, 0x5E, 0})
				was := seen(d)
				notOpened(t, d, first, api.ErrArg)
				stays(t, d, was)
			}
		}
	}
}

// The store that records of each kind made, rising and as they are.
func TestOpenOfRecords(t *testing.T) {
	first := writes("abcdef", 0, "")
	one, two := writes("ab", 1, "x"), writes("c", 3, "y")
	other := api.Tx{Node: 0, Boot: 9, Num: 9}
	for _, recs := range [][]rec.Rec{
		{boot(1)},
		{boot(7)},
		{boot(1), prepared(1, 1, one)},
		{boot(1), prepared(2, 2, one), prepared(1, 1, two)},
		{boot(1), prepared(1, 1, one), done(1)},
		{boot(1), prepared(1, 1, one), undone(1)},
		{boot(1), prepared(1, 1, one), undone(1), prepared(1, 5, two)},
		{boot(1), decided(2, one), decided(1, two)},
		{boot(1), decided(2, one), ended(2)},
		{boot(1), decided(2, one), ended(2), decided(2, two)},
		{boot(1), fresh("a", 1, "x"), fresh("a", 2, "y"), fresh("f", most, long(64))},
		{boot(1), prepared(1, 1, one), fresh("a", 5, "z"), done(1), boot(2), decided(3, one), boot(3)},
		{boot(1), {Kind: rec.Prepared, Tx: other, Reg: api.Reg{Boot: most, N: most}, Writes: two}, prepared(1, 1, one)},
		{boot(1), {Kind: rec.Decided, Tx: other, Writes: two, Missing: []uint64{0}}, decided(1, one),
			{Kind: rec.Decided, Tx: api.Tx{Node: 7, Boot: most, Num: most}, Members: 255, Writes: one, Missing: []uint64{255, 0}}},
		// A key that none of the first items has comes by records as well.
		{boot(1), fresh("g", 4, "new"), prepared(1, 1, writes("hi", 2, "new")), done(1)},
	} {
		d := diskOf(t, mostRoom, recs...)
		want := modelOf(first, recs...)
		want.boot++
		has(t, opened(t, d, first), want)
		logHas(t, d, append(slices.Clone(recs), boot(want.boot))...)
		if pending(d) != 0 {
			t.Fatal("the boot is not forced")
		}
	}
}

// What is refused among the records turns nothing.
func TestOpenOfRecordsThatAreRefused(t *testing.T) {
	first := writes("abc", 2, "")
	one := writes("ab", 3, "x")
	base := []rec.Rec{boot(1), prepared(1, 1, one), decided(2, one), fresh("c", 5, "y")}
	for _, more := range []rec.Rec{
		done(9), undone(9), ended(9), ended(1), done(2), undone(2),
		prepared(1, 1, one), prepared(1, 2, one), prepared(1, 1, writes("ab", 4, "x")), prepared(1, 1, writes("c", 9, "x")),
		prepared(3, 3, writes("bc", 9, "x")), prepared(3, 3, writes("a", 9, "x")),
		decided(2, one), decided(2, writes("c", 9, "x")),
		fresh("c", 4, "z"), fresh("c", 5, "z"), fresh("c", 5, "y"), fresh("a", 0, ""),
	} {
		d := diskOf(t, mostRoom, append(slices.Clone(base), more)...)
		want := modelOf(first, base...)
		want.boot++
		has(t, opened(t, d, first), want)
	}
	full := []rec.Rec{boot(1)}
	for n := range uint32(mostStaged) {
		full = append(full, prepared(n+1, 1, []api.Write{write("k"+string([]byte{byte(n + 1)}), 1, "")}))
	}
	d := diskOf(t, mostRoom, append(slices.Clone(full), prepared(99, 1, one))...)
	want := modelOf(many(mostKeys, ""), full...)
	want.boot++
	has(t, opened(t, d, many(mostKeys, "")), want)
	d = diskOf(t, mostRoom, boot(1), fresh("more", 1, ""))
	has(t, opened(t, d, many(mostKeys, "")), modelOf(many(mostKeys, ""), boot(2)))
}

// What stands behind the last whole record is none.
func TestOpenOfBytesThatAreNoRecord(t *testing.T) {
	first := writes("a", 0, "")
	whole := bytesOf(fresh("a", 1, "x"))
	for size := range whole {
		d := diskOf(t, 5000, boot(1))
		d.Append(whole[:size])
		d.Force()
		has(t, opened(t, d, first), modelOf(first, boot(2)))
		logHas(t, d, boot(1), boot(2))
		has(t, opened(t, d, first), modelOf(first, boot(3)))
	}
}

func TestBootsAtTheirEnd(t *testing.T) {
	first := writes("a", 0, "")
	d := diskOf(t, 5000, boot(most-1))
	has(t, opened(t, d, first), modelOf(first, boot(most)))
	was := seen(d)
	notOpened(t, d, first, api.ErrMax)
	notOpened(t, d, first, api.ErrMax)
	stays(t, d, was)
	// That it is full is told behind that.
	notOpened(t, diskOf(t, 30, boot(most)), first, api.ErrMax)
	notOpened(t, diskOf(t, 30, boot(most-1)), first, api.ErrFull)
}

// P16.2

func TestPrepare(t *testing.T) {
	first := writes("abcdef", 2, "")
	d := newDisk(t, mostRoom)
	s := opened(t, d, first)
	recs := []rec.Rec{boot(1)}
	for _, r := range []rec.Rec{
		prepared(5, 1, writes("b", 3, "x")), prepared(2, 2, writes("acf", most, long(64))), prepared(9, 2, writes("d", 9, "")),
	} {
		must(t, "Prepare", s.Prepare(r.Tx, r.Reg, r.Writes), api.OK)
		recs = append(recs, r)
		has(t, s, modelOf(first, recs...))
		logHas(t, d, recs...)
		if pending(d) != 0 {
			t.Fatal("it is not forced")
		}
		was := seen(d)
		must(t, "Prepare again", s.Prepare(r.Tx, r.Reg, r.Writes), api.OK)
		stays(t, d, was)
	}
	has(t, s, modelOf(first, recs...))
}

func TestPrepareThatIsRefused(t *testing.T) {
	first := writes("abcdef", 2, "i")
	recs := []rec.Rec{boot(1), prepared(1, 1, writes("bc", 3, "x"))}
	d := diskOf(t, mostRoom, recs...)
	s := opened(t, d, first)
	recs = append(recs, boot(2))
	was := seen(d)
	for _, c := range []struct {
		what string
		num  uint32
		g    api.Reg
		l    []api.Write
		want api.Errno
	}{
		{"no key", 2, reg(1), writes("ag", 3, "x"), api.ErrNone},
		{"no key, ahead of an old item", 2, reg(1), writes("ag", 1, "x"), api.ErrNone},
		{"no key, ahead of what may not be", 0, reg(0), writes("g", 1, long(65)), api.ErrNone},
		{"no key that may be", 2, reg(1), []api.Write{{Item: of(3, "")}}, api.ErrNone},
		{"an older item", 2, reg(1), writes("a", 1, "i"), api.ErrOld},
		{"the same item", 2, reg(1), writes("a", 2, "i"), api.ErrOld},
		{"one as old", 2, reg(1), writes("a", 2, "x"), api.ErrOld},
		{"an older item behind a newer one", 2, reg(1), []api.Write{write("a", 3, ""), write("d", 2, "")}, api.ErrOld},
		{"an older item, ahead of what may not be", 0, reg(0), []api.Write{write("a", 2, long(65))}, api.ErrOld},
		{"an older item, ahead of one that is there", 1, reg(1), []api.Write{write("b", 3, "x"), write("c", 2, "x")}, api.ErrOld},
		{"a name that may not be", 0, reg(1), writes("a", 3, ""), api.ErrArg},
		{"a reg that may not be", 2, reg(0), writes("a", 3, ""), api.ErrArg},
		{"no writes", 2, reg(1), nil, api.ErrArg},
		{"an item that may not be", 2, reg(1), writes("a", most+1, ""), api.ErrArg},
		{"keys that do not rise", 2, reg(1), writes("ba", 3, ""), api.ErrArg},
		{"a key twice", 2, reg(1), writes("aa", 3, ""), api.ErrArg},
		{"another reg", 1, reg(2), writes("bc", 3, "x"), api.ErrThere},
		{"other writes", 1, reg(1), writes("bc", 4, "x"), api.ErrThere},
		{"fewer writes", 1, reg(1), writes("b", 3, "x"), api.ErrThere},
		{"another one's key", 2, reg(1), writes("ac", 3, "x"), api.ErrState},
	} {
		must(t, "Prepare of "+c.what, s.Prepare(tx(c.num), c.g, c.l), c.want)
		stays(t, d, was)
		has(t, s, modelOf(first, recs...))
	}
}

func TestPrepareOfVeryMany(t *testing.T) {
	first := many(mostKeys, "")
	s := opened(t, newDisk(t, mostRoom), first)
	for n, x := range first {
		must(t, "Prepare", s.Prepare(tx(uint32(n+1)), reg(1), []api.Write{{Key: x.Key, Item: of(1, "")}}), api.OK)
	}
	must(t, "Abort", s.Abort(tx(5)), api.OK)
	must(t, "Prepare", s.Prepare(tx(77), reg(1), []api.Write{{Key: first[4].Key, Item: of(1, "")}}), api.OK)
	must(t, "Prepare of one more", s.Prepare(tx(78), reg(1), []api.Write{{Key: first[4].Key, Item: of(1, "")}}), api.ErrState)
	if got := len(s.Staged()); got != mostStaged {
		t.Fatal(got)
	}
}

// A key of the table is left to one more than a stage has just if others are written that the table has not.
func TestPrepareOfOneTooMany(t *testing.T) {
	recs := []rec.Rec{boot(1)}
	for n, x := range many(mostStaged, "") {
		recs = append(recs, prepared(uint32(n+1), 1, []api.Write{x}))
	}
	d := diskOf(t, mostRoom, recs...)
	s := opened(t, d, writes("ab", 0, ""))
	was := seen(d)
	must(t, "Prepare of one too many", s.Prepare(tx(99), reg(1), writes("a", 1, "")), api.ErrMany)
	must(t, "Prepare of one that is there", s.Prepare(tx(5), reg(2), writes("a", 1, "")), api.ErrThere)
	stays(t, d, was)
	must(t, "Commit", s.Commit(tx(5)), api.OK)
	must(t, "Prepare in its place", s.Prepare(tx(99), reg(1), writes("a", 1, "")), api.OK)
}

func TestCommit(t *testing.T) {
	first := writes("abcdef", 2, "")
	recs := []rec.Rec{boot(1), prepared(1, 1, writes("bc", 3, "x")), prepared(2, 1, writes("a", 7, "y"))}
	d := diskOf(t, mostRoom, recs...)
	s := opened(t, d, first)
	recs = append(recs, boot(2))
	was := seen(d)
	for _, x := range []api.Tx{tx(3), {}, {Node: 2, Boot: 1, Num: 1}, {Node: 1, Boot: 2, Num: 1}} {
		must(t, "Commit", s.Commit(x), api.ErrNone)
		must(t, "Abort", s.Abort(x), api.ErrNone)
	}
	stays(t, d, was)
	for _, num := range []uint32{2, 1} {
		must(t, "Commit", s.Commit(tx(num)), api.OK)
		recs = append(recs, done(num))
		has(t, s, modelOf(first, recs...))
		logHas(t, d, recs...)
		if pending(d) != 0 {
			t.Fatal("it is not forced")
		}
		must(t, "Commit again", s.Commit(tx(num)), api.ErrNone)
		must(t, "Abort behind it", s.Abort(tx(num)), api.ErrNone)
	}
	// What is not newer any more can not be prepared again.
	must(t, "Prepare", s.Prepare(tx(1), reg(1), writes("bc", 3, "x")), api.ErrOld)
	must(t, "Prepare", s.Prepare(tx(1), reg(1), writes("bc", 4, "x")), api.OK)
}

// Items that came meanwhile, and are newer, stay.
func TestCommitOfWhatIsOld(t *testing.T) {
	first := writes("abc", 0, "")
	d := newDisk(t, mostRoom)
	s := opened(t, d, first)
	must(t, "Prepare", s.Prepare(tx(1), reg(1), writes("abc", 3, "x")), api.OK)
	must(t, "Fresh", s.Fresh(key("a"), of(4, "y")), api.OK)
	must(t, "Fresh", s.Fresh(key("b"), of(3, "y")), api.OK)
	must(t, "Commit", s.Commit(tx(1)), api.OK)
	want := modelOf([]api.Write{write("a", 4, "y"), write("b", 3, "y"), write("c", 3, "x")}, boot(1))
	has(t, s, want)
	want.boot++
	has(t, opened(t, d, first), want)
}

func TestAbort(t *testing.T) {
	first := writes("abcdef", 2, "")
	recs := []rec.Rec{boot(1), prepared(1, 1, writes("bc", 3, "x")), prepared(2, 1, writes("a", 7, "y"))}
	d := diskOf(t, mostRoom, recs...)
	s := opened(t, d, first)
	recs = append(recs, boot(2))
	for _, num := range []uint32{2, 1} {
		must(t, "Abort", s.Abort(tx(num)), api.OK)
		recs = append(recs, undone(num))
		has(t, s, modelOf(first, recs...))
		logHas(t, d, recs...)
		must(t, "Abort again", s.Abort(tx(num)), api.ErrNone)
		must(t, "Commit behind it", s.Commit(tx(num)), api.ErrNone)
	}
	if pending(d) != sizeOf(undone(2), undone(1)) {
		t.Fatal("an Abort forces nothing")
	}
	must(t, "Prepare of what is free", s.Prepare(tx(3), reg(1), writes("abc", 3, "x")), api.OK)
}

// P16.3

func TestDecide(t *testing.T) {
	first := writes("ab", 0, "")
	d := newDisk(t, mostRoom)
	s := opened(t, d, first)
	recs := []rec.Rec{boot(1)}
	for _, x := range []store.Decision{
		decision(5, writes("ab", 1, "x")),
		{Tx: api.Tx{Node: 7, Boot: most, Num: most}, Members: 255, Writes: many(16, long(64)), Missing: slices.Repeat([]uint64{255}, 16)},
		{Tx: api.Tx{Node: 0, Boot: 1, Num: 9}, Writes: writes("z", 0, ""), Missing: []uint64{0}},
		decision(4, writes("a", 1, "x")),
	} {
		must(t, "Decide", s.Decide(x), api.OK)
		recs = append(recs, recordOf(x))
		has(t, s, modelOf(first, recs...))
		logHas(t, d, recs...)
		if pending(d) != 0 {
			t.Fatal("it is not forced")
		}
		was := seen(d)
		must(t, "Decide again", s.Decide(x), api.ErrThere)
		x.Writes, x.Missing = writes("c", 3, ""), []uint64{1}
		must(t, "Decide otherwise", s.Decide(x), api.ErrThere)
		stays(t, d, was)
	}
	has(t, s, modelOf(first, recs...))
}

func TestDecideOfWhatMayNotBe(t *testing.T) {
	first := writes("ab", 0, "")
	good := decision(1, writes("ab", 1, "x"))
	d := newDisk(t, mostRoom)
	s := opened(t, d, first)
	for _, there := range []bool{false, true} {
		was := seen(d)
		for what, x := range map[string]store.Decision{
			"a name":         {Tx: tx(0), Members: good.Members, Writes: good.Writes, Missing: good.Missing},
			"members":        {Tx: good.Tx, Members: 256, Writes: good.Writes, Missing: good.Missing},
			"no writes":      {Tx: good.Tx, Members: good.Members},
			"writes":         {Tx: good.Tx, Members: good.Members, Writes: writes("ba", 1, "x"), Missing: good.Missing},
			"an item":        {Tx: good.Tx, Members: good.Members, Writes: writes("ab", 1, long(65)), Missing: good.Missing},
			"a missing one":  {Tx: good.Tx, Members: good.Members, Writes: good.Writes, Missing: []uint64{1, 256}},
			"fewer missing":  {Tx: good.Tx, Members: good.Members, Writes: good.Writes, Missing: []uint64{1}},
			"more missing":   {Tx: good.Tx, Members: good.Members, Writes: good.Writes, Missing: []uint64{1, 1, 1}},
			"too many":       {Tx: good.Tx, Members: good.Members, Writes: many(17, ""), Missing: make([]uint64, 17)},
			"nothing at all": {},
		} {
			must(t, "Decide of "+what, s.Decide(x), api.ErrArg)
		}
		stays(t, d, was)
		if got := s.Decisions(); len(got) != 0 && !there {
			t.Fatal(got)
		}
		if !there {
			must(t, "Decide", s.Decide(good), api.OK)
		}
	}
	has(t, s, modelOf(first, boot(1), recordOf(good)))
}

func TestEnd(t *testing.T) {
	first := writes("ab", 0, "")
	recs := []rec.Rec{boot(1), decided(1, writes("a", 1, "x")), decided(3, writes("a", 2, "x"))}
	d := diskOf(t, mostRoom, recs...)
	s := opened(t, d, first)
	recs = append(recs, boot(2))
	for _, x := range []api.Tx{tx(2), {}, {Node: 2, Boot: 1, Num: 1}} {
		must(t, "End", s.End(x), api.ErrNone)
	}
	for _, num := range []uint32{3, 1} {
		must(t, "End", s.End(tx(num)), api.OK)
		recs = append(recs, ended(num))
		has(t, s, modelOf(first, recs...))
		logHas(t, d, recs...)
		must(t, "End again", s.End(tx(num)), api.ErrNone)
	}
	if pending(d) != sizeOf(ended(3), ended(1)) {
		t.Fatal("an End forces nothing")
	}
	must(t, "Decide of one that was", s.Decide(decision(3, writes("b", 1, "x"))), api.OK)
	has(t, s, modelOf(first, append(recs, decided(3, writes("b", 1, "x")))...))
}

func TestFresh(t *testing.T) {
	first := writes("abc", 2, "i")
	d := newDisk(t, mostRoom)
	s := opened(t, d, first)
	recs := []rec.Rec{boot(1)}
	for _, r := range []rec.Rec{fresh("b", 3, "x"), fresh("a", most, long(64)), fresh("b", 5, ""),
		{Kind: rec.Fresh, Key: key("c"), Item: api.Item{Version: 3, Conf: conf(9)}}} {
		must(t, "Fresh", s.Fresh(r.Key, r.Item), api.OK)
		recs = append(recs, r)
		has(t, s, modelOf(first, recs...))
		logHas(t, d, recs...)
		if pending(d) != 0 {
			t.Fatal("it is not forced")
		}
		was := seen(d)
		must(t, "Fresh again", s.Fresh(r.Key, r.Item), api.OK)
		must(t, "Fresh of an old one", s.Fresh(r.Key, of(2, "j")), api.OK)
		must(t, "Fresh of the first one", s.Fresh(r.Key, of(2, "i")), api.OK)
		stays(t, d, was)
		must(t, "Fresh of another one as new", s.Fresh(r.Key, of(r.Item.Version, "other")), api.ErrThere)
		other := r.Item
		other.Conf.Epoch++
		must(t, "Fresh of another Conf", s.Fresh(r.Key, other), api.ErrThere)
		stays(t, d, was)
	}
	has(t, s, modelOf(first, recs...))
}

func TestFreshThatIsRefused(t *testing.T) {
	first := writes("abc", 2, "i")
	d := newDisk(t, mostRoom)
	s := opened(t, d, first)
	was := seen(d)
	for _, k := range []api.Key{key("d"), key("aa"), {}, {0, 'a'}} {
		must(t, "Fresh of no key", s.Fresh(k, of(3, "x")), api.ErrNone)
		must(t, "Fresh of no key and no item", s.Fresh(k, api.Item{}), api.ErrNone)
	}
	for _, i := range []api.Item{{}, of(most+1, ""), of(3, long(65)), {Version: 3, Conf: api.Config{Epoch: 1}}, {Version: 1}} {
		must(t, "Fresh of an item that may not be", s.Fresh(key("a"), i), api.ErrArg)
	}
	stays(t, d, was)
	has(t, s, modelOf(first, boot(1)))
}

func TestLay(t *testing.T) {
	first := writes("abc", 0, "i")
	recs := []rec.Rec{boot(1), fresh("b", 3, "x"), prepared(2, 7, writes("ac", 1, "")), decided(5, writes("a", 1, "y")), prepared(1, 1, writes("b", 9, "")),
		decided(4, writes("b", 1, "y")), ended(5), undone(2)}
	d := diskOf(t, mostRoom, recs...)
	s := opened(t, d, first)
	must(t, "Abort", s.Abort(tx(1)), api.OK)
	must(t, "Prepare", s.Prepare(tx(3), reg(4), writes("c", 1, "")), api.OK)
	must(t, "Prepare", s.Prepare(tx(2), reg(3), writes("a", 1, "")), api.OK)
	must(t, "Decide", s.Decide(decision(3, writes("c", 1, ""))), api.OK)
	want := []rec.Rec{boot(2), fresh("a", 0, "i"), fresh("b", 3, "x"), fresh("c", 0, "i"),
		prepared(2, 3, writes("a", 1, "")), prepared(3, 4, writes("c", 1, "")),
		decided(3, writes("c", 1, "")), decided(4, writes("b", 1, "y"))}
	must(t, "Lay", s.Lay(), api.OK)
	logHas(t, d, want...)
	has(t, s, modelOf(first, want...))
	if first, sure := d.Forced(); first != d.Base() || sure != d.End() {
		t.Fatal("it is not forced")
	}
	must(t, "Lay again", s.Lay(), api.OK)
	logHas(t, d, want...)
	has(t, opened(t, d, first), modelOf(first, append(want, boot(3))...))

	filled(t, d, sizeOf(want...)-1)
	was := seen(d)
	must(t, "Lay without room", s.Lay(), api.ErrFull)
	stays(t, d, was)
	must(t, "Fail", d.Fail(), api.OK)
	must(t, "Lay without power", s.Lay(), api.ErrDown)
}

func TestStoresThatNobodyGave(t *testing.T) {
	good := writes("a", 1, "x")
	for _, s := range []*store.Store{nil, {}, new(store.Store)} {
		for range 2 {
			for num := range uint32(2) {
				must(t, "Prepare", s.Prepare(tx(num), reg(num), good), api.ErrNil)
				must(t, "Prepare of nothing", s.Prepare(tx(num), reg(num), nil), api.ErrNil)
				must(t, "Commit", s.Commit(tx(num)), api.ErrNil)
				must(t, "Abort", s.Abort(tx(num)), api.ErrNil)
				must(t, "Decide", s.Decide(decision(num, good)), api.ErrNil)
				must(t, "End", s.End(tx(num)), api.ErrNil)
				must(t, "Fresh", s.Fresh(key("a"), of(num, "")), api.ErrNil)
				must(t, "Lay", s.Lay(), api.ErrNil)
			}
			has(t, s, &model{})
		}
	}
}

func TestNothingWithoutPower(t *testing.T) {
	first := writes("abc", 0, "i")
	d := diskOf(t, mostRoom, boot(1), prepared(1, 1, writes("a", 1, "x")), decided(2, writes("a", 1, "x")))
	s := opened(t, d, first)
	want := modelOf(first, recordsOn(t, d)...)
	must(t, "Fail", d.Fail(), api.OK)
	was := seen(d)
	for range 2 {
		must(t, "Prepare", s.Prepare(tx(3), reg(1), writes("b", 1, "x")), api.ErrDown)
		must(t, "Prepare of one that is there", s.Prepare(tx(1), reg(1), writes("a", 1, "x")), api.OK)
		must(t, "Commit", s.Commit(tx(1)), api.ErrDown)
		must(t, "Abort", s.Abort(tx(1)), api.ErrDown)
		must(t, "Decide", s.Decide(decision(3, writes("a", 1, "x"))), api.ErrDown)
		must(t, "End", s.End(tx(2)), api.ErrDown)
		must(t, "Fresh", s.Fresh(key("c"), of(1, "x")), api.ErrDown)
		must(t, "Fresh of one that is there", s.Fresh(key("c"), of(0, "i")), api.OK)
		must(t, "Lay", s.Lay(), api.ErrDown)
		must(t, "Commit of none", s.Commit(tx(9)), api.ErrNone)
		stays(t, d, was)
		has(t, s, want)
	}
}

// R4

func TestListsThatAreHandedIn(t *testing.T) {
	first := append(make([]api.Write, 0, 9), writes("abcd", 0, "")...)
	l := append(make([]api.Write, 0, 9), writes("ab", 1, "x")...)
	x := decision(2, append(make([]api.Write, 0, 9), writes("cd", 1, "y")...))
	x.Missing = append(make([]uint64, 0, 9), 1, 2)
	d := newDisk(t, mostRoom)
	s := opened(t, d, first)
	must(t, "Prepare", s.Prepare(tx(1), reg(1), l), api.OK)
	must(t, "Decide", s.Decide(x), api.OK)
	want := modelOf(writes("abcd", 0, ""), recordsOn(t, d)...)
	must(t, "Lay", s.Lay(), api.OK)
	if !slices.Equal(first, writes("abcd", 0, "")) || !slices.Equal(l, writes("ab", 1, "x")) ||
		!slices.Equal(x.Writes, writes("cd", 1, "y")) || !slices.Equal(x.Missing, []uint64{1, 2}) {
		t.Fatal("it wrote into what it was handed")
	}
	clear(first)
	clear(l)
	clear(x.Writes)
	clear(x.Missing)
	has(t, s, want)
	must(t, "Commit", s.Commit(tx(1)), api.OK)
	want.apply(done(1))
	has(t, s, want)
}

func TestListsAreTheCallers(t *testing.T) {
	first := writes("abcd", 0, "")
	s := opened(t, newDisk(t, mostRoom), first)
	must(t, "Prepare", s.Prepare(tx(1), reg(1), writes("ab", 1, "x")), api.OK)
	must(t, "Decide", s.Decide(decision(2, writes("cd", 1, "y"))), api.OK)
	want := modelOf(first, boot(1), prepared(1, 1, writes("ab", 1, "x")), decided(2, writes("cd", 1, "y")))
	for range 2 {
		clear(s.Items())
		clear(s.Staged())
		l, _, _ := s.Writes(tx(1))
		clear(l)
		for _, x := range s.Decisions() {
			clear(x.Writes)
			clear(x.Missing)
		}
		clear(s.Decisions())
		has(t, s, want)
	}
	must(t, "Lay", s.Lay(), api.OK)
	must(t, "Commit", s.Commit(tx(1)), api.OK)
	want.apply(done(1))
	has(t, s, want)
}
