package item_test

import (
	"slices"
	"testing"

	"parrel/api"
	"parrel/item"
)

// P13.3

// stamped is an item of which no two steps are likely to have the same, though their versions are few.
func (x *chance) stamped() api.Item { return of(uint32(x.below(6)), string(rune('a'+x.below(4)))) }

// noVersionFell asks of each key that was there that it still is, and is no older.
func noVersionFell(t *testing.T, was, now []api.Write) {
	t.Helper()
	for _, w := range was {
		at := slices.IndexFunc(now, func(x api.Write) bool { return x.Key == w.Key })
		if at < 0 || now[at].Item.Version < w.Item.Version {
			t.Fatalf("%v was there; now there are %v", w, now)
		}
		if now[at].Item.Version == w.Item.Version && now[at].Item != w.Item {
			t.Fatalf("%v is now %v", w, now[at])
		}
	}
}

// Over mixed steps tables do what lists of what was installed do, and versions only rise.
func TestMixedSteps(t *testing.T) {
	for seed := range 40 {
		row := chance(1000 + seed)
		keys := numbered(1 + row.below(90))
		tables := []*item.Table{item.New(), item.New()}
		models := make([]model, 2)
		for step := range 400 {
			at := row.below(2)
			was := tables[at].All()
			var got, want api.Errno
			if row.below(30) == 0 {
				o := row.below(2)
				got, want = tables[at].Merge(tables[o]), models[at].merge(models[o])
			} else {
				k, i := keys[row.below(len(keys))], row.stamped()
				got, want = tables[at].Install(k, i), models[at].install(k, i)
			}
			if got != want {
				t.Fatalf("seed %d, step %d: %v; want %v", seed, step, got, want)
			}
			has(t, tables[0], models[0].rising()...)
			has(t, tables[1], models[1].rising()...)
			noVersionFell(t, was, tables[at].All())
		}
	}
}

// P13.4

// orders are all orders of a list.
func orders[T any](list []T) [][]T {
	if len(list) == 0 {
		return [][]T{nil}
	}
	var out [][]T
	for n := range list {
		rest := slices.Delete(slices.Clone(list), n, n+1)
		for _, order := range orders(rest) {
			out = append(out, append([]T{list[n]}, order...))
		}
	}
	return out
}

func TestNewestIsThereAtLast(t *testing.T) {
	list := []api.Item{of(0, "e"), of(1, "d"), of(2, "c"), of(300, "b"), of(most-1, "a"), of(most, "")}
	for _, order := range orders(list) {
		x, y := item.New(), item.New()
		newest := order[0]
		for n, i := range order {
			want := api.OK
			if i.Version < newest.Version {
				want = api.ErrOld
			} else {
				newest = i
			}
			must(t, "Install", x.Install(api.Key{'a'}, i), want)
			has(t, x, api.Write{Key: api.Key{'a'}, Item: newest})
			if got, is := item.Newest(order[:n+1]); got != newest || !is {
				t.Fatal(got, is)
			}
			one := tableOf(t, api.Write{Key: api.Key{'a'}, Item: i})
			must(t, "Merge", y.Merge(one), api.OK)
		}
		has(t, x, write('a', most, ""))
		has(t, y, write('a', most, ""))
	}
}

// Of several keys each has its newest one, however the items of all are mixed up.
func TestNewestOfEachKeyIsThereAtLast(t *testing.T) {
	var list, want []api.Write
	for n, k := range goodKeys() {
		for version := range n + 1 {
			list = append(list, api.Write{Key: k, Item: of(uint32(version), string(rune('a'+n)))})
		}
		want = append(want, list[len(list)-1])
	}
	row := chance(7)
	for range 200 {
		x := item.New()
		for _, w := range shuffled(&row, list) {
			if why := x.Install(w.Key, w.Item); why != api.OK && why != api.ErrOld {
				t.Fatal(why)
			}
		}
		has(t, x, want...)
	}
}

// P13.5

// Each error that Install has is answered, and nothing that can be told is another then.
func TestWhatIsRefusedTurnsNothing(t *testing.T) {
	x, list := full(t)
	there := list[9].Key
	for range 3 {
		for _, k := range badKeys() {
			must(t, "Install under no key", x.Install(k, of(9, "y")), api.ErrArg)
		}
		for _, i := range badItems() {
			must(t, "Install of no item", x.Install(there, i), api.ErrArg)
		}
		must(t, "Install of one more", x.Install(api.Key{'a'}, of(9, "y")), api.ErrMany)
		must(t, "Install of an older one", x.Install(there, of(4, "x")), api.ErrOld)
		must(t, "Install of another one", x.Install(there, of(5, "y")), api.ErrThere)
		must(t, "Merge of one more", x.Merge(tableOf(t, write('a', 9, "y"))), api.ErrMany)
		must(t, "Merge of another one", x.Merge(tableOf(t, api.Write{Key: there, Item: of(5, "y")})), api.ErrThere)
		has(t, x, list...)
		if i, is := x.Get(api.Key{'a'}); i != (api.Item{}) || is {
			t.Fatal(i, is)
		}
	}
	// What was refused has taken no room, and no version: the same goes where it may.
	must(t, "Install of a newer one", x.Install(there, of(6, "y")), api.OK)
	list[9].Item = of(6, "y")
	has(t, x, list...)
}

// A key that was refused is not there, and takes none of the places.
func TestRefusedKeysTakeNoPlace(t *testing.T) {
	x := item.New()
	for _, k := range numbered(mostKeys) {
		must(t, "Install of no item", x.Install(k, api.Item{}), api.ErrArg)
	}
	for _, k := range badKeys() {
		must(t, "Install under no key", x.Install(k, of(1, "")), api.ErrArg)
	}
	has(t, x)
	for _, k := range numbered(mostKeys) {
		must(t, "Install", x.Install(k, of(1, "")), api.OK)
	}
	must(t, "Install of one more", x.Install(api.Key{'a'}, of(1, "")), api.ErrMany)
}
