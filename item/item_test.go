package item_test

import (
	"slices"
	"testing"

	"parrel/api"
	"parrel/item"
)

// Example 1 of the chapter.
func TestExample(t *testing.T) {
	x := item.New()
	must(t, "Install", x.Install(api.Key{'a'}, of(2, "")), api.OK)
	must(t, "Install", x.Install(api.Key{'a'}, of(1, "")), api.ErrOld)
	has(t, x, write('a', 2, ""))
}

// P13.1

func TestNew(t *testing.T) {
	x, y := item.New(), item.New()
	if x == nil || y == nil || x == y {
		t.Fatal(x, y)
	}
	has(t, x)
	must(t, "Install", x.Install(api.Key{'a'}, of(1, "")), api.OK)
	has(t, y)
}

func TestInstall(t *testing.T) {
	for _, k := range goodKeys() {
		for _, i := range goodItems() {
			x := item.New()
			must(t, "Install", x.Install(k, i), api.OK)
			has(t, x, api.Write{Key: k, Item: i})
			must(t, "Install of what is there", x.Install(k, i), api.OK)
			has(t, x, api.Write{Key: k, Item: i})
		}
	}
}

// What may not be is refused ahead of all else, in an empty table, a full one, and under a key that is there.
func TestInstallOfWhatMayNotBe(t *testing.T) {
	one := tableOf(t, write('a', 9, "x"))
	all, list := full(t)
	for _, k := range append(badKeys(), goodKeys()...) {
		for _, i := range append(badItems(), goodItems()...) {
			if slices.Contains(goodKeys(), k) && slices.Contains(goodItems(), i) {
				continue
			}
			empty := item.New()
			must(t, "Install into an empty one", empty.Install(k, i), api.ErrArg)
			has(t, empty)
			must(t, "Install where one is", one.Install(k, i), api.ErrArg)
			must(t, "Install into a full one", all.Install(k, i), api.ErrArg)
		}
	}
	for _, i := range badItems() {
		must(t, "Install under a key that is there", one.Install(api.Key{'a'}, i), api.ErrArg)
		must(t, "Install under a key of a full one", all.Install(list[0].Key, i), api.ErrArg)
	}
	has(t, one, write('a', 9, "x"))
	has(t, all, list...)
}

func TestInstallOverWhatIsThere(t *testing.T) {
	versions := []uint32{0, 1, 2, 127, 128, 255, 256, 1 << 16, 1 << 24, most - 1, most}
	for n, was := range versions {
		for m, now := range versions {
			x := tableOf(t, write('a', was, "was"), write('b', 7, "b"))
			want, stays := api.OK, write('a', now, "now")
			if n > m {
				want, stays = api.ErrOld, write('a', was, "was")
			} else if n == m {
				want, stays = api.ErrThere, write('a', was, "was")
			}
			must(t, "Install", x.Install(api.Key{'a'}, of(now, "now")), want)
			has(t, x, stays, write('b', 7, "b"))
		}
	}
}

// An older item is refused as such, be it else the same or not.
func TestInstallOfAnOlderOne(t *testing.T) {
	x := tableOf(t, write('a', 3, "abc"))
	must(t, "Install of the same value", x.Install(api.Key{'a'}, of(2, "abc")), api.ErrOld)
	must(t, "Install of a newer epoch", x.Install(api.Key{'a'}, api.Item{Version: 2, Conf: conf(9, 2, 2, 1, 1, 1)}), api.ErrOld)
	has(t, x, write('a', 3, "abc"))
}

// Each field makes an item of the same version another one.
func TestInstallOfAnotherOne(t *testing.T) {
	there, list := others()
	for _, i := range list {
		x := tableOf(t, api.Write{Key: api.Key{'a'}, Item: there})
		must(t, "Install", x.Install(api.Key{'a'}, i), api.ErrThere)
		must(t, "Install of what is there", x.Install(api.Key{'a'}, there), api.OK)
		has(t, x, api.Write{Key: api.Key{'a'}, Item: there})
		x = tableOf(t, api.Write{Key: api.Key{'a'}, Item: i})
		must(t, "Install the other way round", x.Install(api.Key{'a'}, there), api.ErrThere)
		has(t, x, api.Write{Key: api.Key{'a'}, Item: i})
	}
}

// An item that is newer may have an older epoch, and no value.
func TestInstallAsksForTheVersionAlone(t *testing.T) {
	x := tableOf(t, api.Write{Key: api.Key{'a'}, Item: api.Item{Version: 1, Value: "abc", Conf: conf(9, 1, 1, 1)}})
	must(t, "Install", x.Install(api.Key{'a'}, of(2, "")), api.OK)
	has(t, x, write('a', 2, ""))
}

func TestInstallOfVeryManyKeys(t *testing.T) {
	x := item.New()
	for n, k := range numbered(mostKeys) {
		must(t, "Install", x.Install(k, of(5, "x")), api.OK)
		if x.Len() != n+1 {
			t.Fatal(x.Len())
		}
	}
	_, list := full(t)
	for _, k := range append(goodKeys(), numbered(mostKeys + 9)[mostKeys:]...) {
		must(t, "Install of one more", x.Install(k, of(5, "x")), api.ErrMany)
		must(t, "Install of one more", x.Install(k, of(most, "")), api.ErrMany)
	}
	has(t, x, list...)
	for n, w := range list {
		must(t, "Install of an older one", x.Install(w.Key, of(4, "x")), api.ErrOld)
		must(t, "Install of another one", x.Install(w.Key, of(5, "y")), api.ErrThere)
		must(t, "Install of what is there", x.Install(w.Key, of(5, "x")), api.OK)
		must(t, "Install of a newer one", x.Install(w.Key, of(6, "y")), api.OK)
		list[n].Item = of(6, "y")
	}
	has(t, x, list...)
}

func TestGetOfNoKey(t *testing.T) {
	x := tableOf(t, write('a', 1, "x"), write('c', 1, "x"))
	for _, k := range append(badKeys(), api.Key{'b'}, api.Key{'a', 'a'}, api.Key{'c', 1}, api.Key{255}) {
		if i, is := x.Get(k); i != (api.Item{}) || is {
			t.Error(k, i, is)
		}
	}
	has(t, x, write('a', 1, "x"), write('c', 1, "x"))
}

// However they came, all are told rising.
func TestAllRises(t *testing.T) {
	var want []api.Write
	for n, k := range goodKeys() {
		want = append(want, api.Write{Key: k, Item: of(uint32(n), "x")})
	}
	row := chance(3)
	for range 200 {
		has(t, tableOf(t, shuffled(&row, want)...), want...)
	}
	_, list := full(t)
	for range 20 {
		has(t, tableOf(t, shuffled(&row, list)...), list...)
	}
}

// P13.2

func TestMerge(t *testing.T) {
	x := tableOf(t, write('a', 1, "a"), write('c', 5, "c"), write('d', 2, "d"), write('e', 3, "e"))
	o := tableOf(t, write('b', 2, "b"), write('c', 4, "old"), write('d', 3, "new"), write('e', 3, "e"), write('f', 0, "f"))
	must(t, "Merge", x.Merge(o), api.OK)
	both := []api.Write{write('a', 1, "a"), write('b', 2, "b"), write('c', 5, "c"), write('d', 3, "new"), write('e', 3, "e"), write('f', 0, "f")}
	has(t, x, both...)
	has(t, o, write('b', 2, "b"), write('c', 4, "old"), write('d', 3, "new"), write('e', 3, "e"), write('f', 0, "f"))

	must(t, "Merge again", x.Merge(o), api.OK)
	must(t, "Merge with itself", x.Merge(x), api.OK)
	has(t, x, both...)
	must(t, "Merge the other way round", o.Merge(x), api.OK)
	has(t, o, both...)
	must(t, "Merge with an empty one", x.Merge(item.New()), api.OK)
	has(t, x, both...)

	empty := item.New()
	must(t, "Merge of an empty one", empty.Merge(x), api.OK)
	has(t, empty, both...)
	must(t, "Install", empty.Install(api.Key{'a'}, of(2, "2")), api.OK)
	must(t, "Install", o.Install(api.Key{'g'}, of(2, "2")), api.OK)
	has(t, x, both...)
}

// Those ahead of another item of the same version are installed, and none behind it, however they were put.
func TestMergeEndsAtAnotherOne(t *testing.T) {
	keys := []byte{'a', 'b', 'c', 'd', 'e', 'f'}
	row := chance(5)
	for at, bad := range keys {
		for second := at; second < len(keys); second++ {
			var come, want []api.Write
			for n, c := range keys {
				come = append(come, write(c, 4, "new"))
				if n < at {
					want = append(want, write(c, 4, "new"))
				}
			}
			x := tableOf(t, write(bad, 4, "was"), write('g', 1, "g"))
			want = append(want, write(bad, 4, "was"))
			if second > at {
				must(t, "Install", x.Install(api.Key{keys[second]}, of(4, "was")), api.OK)
				want = append(want, write(keys[second], 4, "was"))
			}
			o := tableOf(t, shuffled(&row, come)...)
			must(t, "Merge", x.Merge(o), api.ErrThere)
			has(t, x, append(want, write('g', 1, "g"))...)
			has(t, o, come...)
		}
	}
}

// Older ones are gone past, ahead of an error and behind none.
func TestMergeGoesPastOlderOnes(t *testing.T) {
	x := tableOf(t, write('a', 9, "a"), write('b', 9, "b"), write('d', 9, "d"), write('f', 1, "f"))
	o := tableOf(t, write('a', 8, "o"), write('b', 0, "o"), write('c', 1, "o"), write('d', 9, "o"), write('f', 2, "o"))
	must(t, "Merge", x.Merge(o), api.ErrThere)
	has(t, x, write('a', 9, "a"), write('b', 9, "b"), write('c', 1, "o"), write('d', 9, "d"), write('f', 1, "f"))

	x = tableOf(t, write('a', 9, "a"), write('b', 9, "b"))
	must(t, "Merge of older ones", x.Merge(tableOf(t, write('a', 8, "o"), write('b', 0, "o"))), api.OK)
	has(t, x, write('a', 9, "a"), write('b', 9, "b"))
}

// Of keys that have no room the first one ends it, though newer items of keys that are there would come behind.
func TestMergeWithoutRoom(t *testing.T) {
	for had := mostKeys - 3; had <= mostKeys; had++ {
		var list, come []api.Write
		for _, k := range numbered(had - 1) {
			list = append(list, api.Write{Key: k, Item: of(1, "was")})
		}
		list = append(list, write('z', 1, "was"))
		come = []api.Write{write('a', 1, "new"), write('b', 1, "new"), write('c', 1, "new"), write('d', 1, "new"), write('z', 2, "new")}
		x := tableOf(t, list...)
		must(t, "Merge", x.Merge(tableOf(t, come...)), api.ErrMany)
		has(t, x, append(come[:mostKeys-had:mostKeys-had], list...)...)
	}
	x, list := full(t)
	y, _ := full(t)
	must(t, "Merge of full ones", x.Merge(y), api.OK)
	has(t, x, list...)
	must(t, "Merge into an empty one", item.New().Merge(x), api.OK)
}

func TestNewest(t *testing.T) {
	for _, c := range []struct {
		list []api.Item
		at   int
	}{
		{[]api.Item{of(0, "")}, 0},
		{[]api.Item{{}}, 0},
		{[]api.Item{of(1, "a"), of(2, "b")}, 1},
		{[]api.Item{of(2, "a"), of(1, "b")}, 0},
		{[]api.Item{of(2, "a"), of(2, "b")}, 0},
		{[]api.Item{of(1, "a"), of(3, "b"), of(2, "c"), of(3, "d"), of(3, "a")}, 1},
		{[]api.Item{of(0, "z"), of(0, "y"), of(0, "x")}, 0},
		{[]api.Item{of(most, ""), of(most-1, "z")}, 0},
		{[]api.Item{of(most, "a"), of(1<<32-1, "z"), of(1<<31, "y")}, 1},
		{[]api.Item{of(1, "z"), {Version: 2}, of(2, "z")}, 1},
		{[]api.Item{{Version: 4, Conf: conf(1, 1, 1, 1)}, {Version: 4, Value: "z", Conf: conf(9, 1, 1, 1)}}, 0},
	} {
		was := slices.Clone(c.list)
		if got, is := item.Newest(c.list); got != c.list[c.at] || !is {
			t.Errorf("%v: %v, %v", c.list, got, is)
		}
		if !slices.Equal(was, c.list) {
			t.Errorf("it wrote into what it was handed: %v", c.list)
		}
	}
	for _, none := range [][]api.Item{nil, {}} {
		if got, is := item.Newest(none); got != (api.Item{}) || is {
			t.Error(got, is)
		}
	}
}

// The newest one stands wherever it may, with others as new behind it.
func TestNewestAtEachPlace(t *testing.T) {
	for size := 1; size <= 9; size++ {
		for at := range size {
			var list []api.Item
			for n := range size {
				version := uint32(3)
				if n > at {
					version += uint32(n % 2)
				}
				list = append(list, of(version, string(rune('a'+n))))
			}
			list[at].Version = 4
			if got, is := item.Newest(list); got != list[at] || !is {
				t.Errorf("%v: %v, %v", list, got, is)
			}
		}
	}
}

func TestTablesThatNobodyGave(t *testing.T) {
	for _, x := range []*item.Table{nil, {}, new(item.Table)} {
		for _, k := range append(goodKeys(), badKeys()...) {
			for _, i := range append(goodItems(), badItems()...) {
				must(t, "Install", x.Install(k, i), api.ErrNil)
			}
			if i, is := x.Get(k); i != (api.Item{}) || is {
				t.Error(i, is)
			}
		}
		one := tableOf(t, write('a', 1, "x"))
		for _, o := range []*item.Table{nil, {}, item.New(), one, x} {
			must(t, "Merge", x.Merge(o), api.ErrNil)
		}
		if len(x.All()) != 0 || x.Len() != 0 {
			t.Error(x.All(), x.Len())
		}
		must(t, "Merge with it", one.Merge(x), api.OK)
		has(t, one, write('a', 1, "x"))
		all, list := full(t)
		must(t, "Merge of a full one with it", all.Merge(x), api.OK)
		has(t, all, list...)
	}
}

// R4

func TestListsAreTheCallers(t *testing.T) {
	x := tableOf(t, write('a', 1, "a"), write('b', 2, "b"))
	one, two := x.All(), x.All()
	clear(one)
	one = append(one[:1], write('z', 9, "z"))
	has(t, x, two...)
	has(t, x, write('a', 1, "a"), write('b', 2, "b"))
}
