package item_test

import (
	"bytes"
	"slices"
	"strings"
	"testing"

	"parrel/api"
	"parrel/item"
)

// The limits, as the document tells them.
const (
	most      = 1<<31 - 1
	mostBytes = 64
	mostKeys  = 64
)

func conf(epoch uint32, r, w uint8, votes ...uint8) api.Config {
	c := api.Config{Epoch: epoch, R: r, W: w}
	copy(c.Votes[:], votes)
	return c
}

// of is an item of a version and a value.
func of(version uint32, value string) api.Item {
	return api.Item{Version: version, Value: value, Conf: conf(1, 2, 2, 1, 1, 1)}
}

// goodItems are ones that may be.
func goodItems() []api.Item {
	return []api.Item{
		of(0, ""),
		of(1, "a"),
		{Version: 128, Value: strings.Repeat("\x00", mostBytes-1), Conf: conf(300, 1, 3, 1, 1, 1)},
		{Version: 5, Value: "äß", Conf: conf(7, 1, 1, 0, 0, 0, 0, 0, 0, 0, 1)},
		{Version: most, Value: strings.Repeat("\xFF", mostBytes), Conf: conf(most, 120, 120, 15, 15, 15, 15, 15, 15, 15, 15)},
	}
}

// badItems are ones that may not be.
func badItems() []api.Item {
	return []api.Item{
		{},
		{Version: 1},
		{Value: "a"},
		of(most+1, ""),
		of(1<<32-1, ""),
		of(1, strings.Repeat("a", mostBytes+1)),
		of(1, strings.Repeat("a", 1<<16)),
		{Version: 1, Conf: conf(0, 2, 2, 1, 1, 1)},
		{Version: 1, Conf: conf(most+1, 2, 2, 1, 1, 1)},
		{Version: 1, Conf: conf(1, 1, 2, 1, 1, 1)},
		{Version: 1, Conf: conf(1, 3, 1, 1, 1, 1)},
		{Version: 1, Conf: conf(1, 2, 4, 1, 1, 1)},
		{Version: 1, Conf: conf(1, 16, 16, 16)},
	}
}

// others are items of the version of the one that is told first, and each has another field that is not that one's.
func others() (api.Item, []api.Item) {
	return of(3, "abc"), []api.Item{
		of(3, ""),
		of(3, "abd"),
		of(3, "ab"),
		of(3, "abc\x00"),
		{Version: 3, Value: "abc", Conf: conf(2, 2, 2, 1, 1, 1)},
		{Version: 3, Value: "abc", Conf: conf(1, 3, 2, 1, 1, 1)},
		{Version: 3, Value: "abc", Conf: conf(1, 2, 3, 1, 1, 1)},
		{Version: 3, Value: "abc", Conf: conf(1, 2, 2, 0, 1, 1, 1)},
		{Version: 3, Value: "abc", Conf: conf(1, 2, 2, 1, 1, 0, 0, 0, 0, 0, 1)},
	}
}

// goodKeys are ones that may be, rising.
func goodKeys() []api.Key {
	return []api.Key{
		{1}, {1, 1}, {'a'}, {'a', 'a', 'a', 'a', 'a', 'a', 'a', 'a'}, {'a', 'b'}, {'b'}, {'b', 'a'},
		{127, 255}, {128}, {128, 1}, {255}, {255, 255, 255, 255, 255, 255, 255, 254}, {255, 255, 255, 255, 255, 255, 255, 255},
	}
}

// badKeys are ones that may not be.
func badKeys() []api.Key {
	return []api.Key{{}, {0, 'a'}, {'a', 0, 'b'}, {0, 0, 0, 0, 0, 0, 0, 1}, {1, 2, 3, 4, 5, 6, 0, 8}, {'a', 0, 0, 0, 0, 0, 0, 'a'}}
}

// numbered are so many keys, rising.
func numbered(count int) []api.Key {
	var out []api.Key
	for n := range count {
		out = append(out, api.Key{'k', byte(n + 1)})
	}
	return out
}

// write is a key of one byte, and its item.
func write(c byte, version uint32, value string) api.Write {
	return api.Write{Key: api.Key{c}, Item: of(version, value)}
}

// tableOf is a table that has writes installed.
func tableOf(t *testing.T, list ...api.Write) *item.Table {
	t.Helper()
	x := item.New()
	for _, w := range list {
		must(t, "Install", x.Install(w.Key, w.Item), api.OK)
	}
	return x
}

// full is a table that has as many keys as it can.
func full(t *testing.T) (*item.Table, []api.Write) {
	t.Helper()
	var list []api.Write
	for _, k := range numbered(mostKeys) {
		list = append(list, api.Write{Key: k, Item: of(5, "x")})
	}
	return tableOf(t, list...), list
}

// has asks for just those writes, by each call that tells of them.
func has(t *testing.T, x *item.Table, want ...api.Write) {
	t.Helper()
	if got := x.All(); !slices.Equal(got, want) {
		t.Fatalf("it has %v; want %v", got, want)
	}
	if got := x.Len(); got != len(want) {
		t.Fatalf("it has %d; want %d", got, len(want))
	}
	for _, w := range want {
		if got, is := x.Get(w.Key); got != w.Item || !is {
			t.Fatalf("%v: %v, %v; want %v", w.Key, got, is, w.Item)
		}
	}
}

// must is an error that has to be that one.
func must(t *testing.T, what string, got, want api.Errno) {
	t.Helper()
	if got != want {
		t.Fatalf("%s: %v; want %v", what, got, want)
	}
}

// model is a table as a list of what was installed, told without package item; keys and items in it may be.
type model []api.Write

func (m *model) install(k api.Key, i api.Item) api.Errno {
	for n, w := range *m {
		if w.Key != k {
			continue
		}
		if w.Item.Version > i.Version {
			return api.ErrOld
		}
		if w.Item.Version == i.Version && w.Item != i {
			return api.ErrThere
		}
		(*m)[n].Item = i
		return api.OK
	}
	if len(*m) == mostKeys {
		return api.ErrMany
	}
	*m = append(*m, api.Write{Key: k, Item: i})
	return api.OK
}

func (m *model) merge(o model) api.Errno {
	for _, w := range o.rising() {
		if why := m.install(w.Key, w.Item); why != api.OK && why != api.ErrOld {
			return why
		}
	}
	return api.OK
}

func (m model) rising() []api.Write {
	out := slices.Clone(m)
	slices.SortFunc(out, func(a, b api.Write) int { return bytes.Compare(a.Key[:], b.Key[:]) })
	return out
}

// chance is a row of numbers, the same each time.
type chance uint64

func (x *chance) below(n int) int {
	*x ^= *x << 13
	*x ^= *x >> 7
	*x ^= *x << 17
	return int(uint64(*x>>11) % uint64(n))
}

// shuffled is a list in another order.
func shuffled[T any](x *chance, list []T) []T {
	out := slices.Clone(list)
	for n := range out {
		m := n + x.below(len(out)-n)
		out[n], out[m] = out[m], out[n]
	}
	return out
}
