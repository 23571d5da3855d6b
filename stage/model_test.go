package stage_test

import (
	"bytes"
	"cmp"
	"slices"
	"strings"
	"testing"

	"parrel/api"
	"parrel/stage"
)

// The limits, as the document tells them.
const (
	most         = 1<<31 - 1
	mostBytes    = 64
	mostNodes    = 8
	mostWrites   = 16
	mostPrepared = 64
)

func conf(epoch uint32, r, w uint8, votes ...uint8) api.Config {
	c := api.Config{Epoch: epoch, R: r, W: w}
	copy(c.Votes[:], votes)
	return c
}

// of is an item of a version and a value.
func of(version uint32, value string) api.Item {
	return api.Item{Version: version, Value: value, Conf: conf(1, 2, 2, 1, 1, 1)}
}

// write is a key of one byte, and its item.
func write(c byte, value string) api.Write {
	return api.Write{Key: api.Key{c}, Item: of(1, value)}
}

// writes are those of keys of one byte each, all of one value.
func writes(keys, value string) []api.Write {
	var out []api.Write
	for n := range len(keys) {
		out = append(out, write(keys[n], value))
	}
	return out
}

func tx(node uint8, boot, num uint32) api.Tx { return api.Tx{Node: node, Boot: boot, Num: num} }

func reg(boot, n uint32) api.Reg { return api.Reg{Boot: boot, N: n} }

// goodTxs are ones that may be, rising.
func goodTxs() []api.Tx {
	return []api.Tx{
		tx(0, 1, 1), tx(0, 1, 2), tx(0, 1, 256), tx(0, 2, 1), tx(0, 255, 9), tx(0, 256, 1), tx(0, most, most),
		tx(1, 1, 1), tx(1, 1, most), tx(1, 2, 1), tx(6, most, 1), tx(mostNodes-1, 1, 1), tx(mostNodes-1, most, most-1), tx(mostNodes-1, most, most),
	}
}

// badTxs are ones that may not be.
func badTxs() []api.Tx {
	return []api.Tx{
		{}, tx(0, 0, 1), tx(0, 1, 0), tx(mostNodes, 1, 1), tx(255, 1, 1), tx(mostNodes-1, 0, 0),
		tx(1, most+1, 1), tx(1, 1, most+1), tx(1, 1<<32-1, 1), tx(1, 1, 1<<32-1),
	}
}

func goodRegs() []api.Reg {
	return []api.Reg{reg(1, 1), reg(1, 2), reg(2, 1), reg(most, 1), reg(1, most), reg(most, most)}
}

func badRegs() []api.Reg {
	return []api.Reg{{}, reg(0, 1), reg(1, 0), reg(most+1, 1), reg(1, most+1), reg(1<<32-1, 1<<32-1)}
}

// goodLists are writes that may be, and of which there is at least one.
func goodLists() [][]api.Write {
	return [][]api.Write{
		writes("a", ""),
		writes("ab", "x"),
		{{Key: api.Key{1}, Item: of(0, "")}, {Key: api.Key{1, 1}, Item: of(most, strings.Repeat("\xFF", mostBytes))}},
		{{Key: api.Key{255, 255, 255, 255, 255, 255, 255, 255}, Item: api.Item{Version: 7, Value: "\x00", Conf: conf(most, 120, 120, 15, 15, 15, 15, 15, 15, 15, 15)}}},
		{{Key: api.Key{'a'}, Item: of(2, "x")}, {Key: api.Key{'a', 'a'}, Item: of(1, "x")}, {Key: api.Key{'b'}, Item: of(1, "x")}, {Key: api.Key{128}, Item: of(1, "")}},
		writes("abcdefghijklmnop", "x"),
	}
}

// badLists are writes that may not be, or none.
func badLists() [][]api.Write {
	out := [][]api.Write{
		nil,
		{},
		writes("aa", "x"),
		writes("ba", "x"),
		writes("acb", "x"),
		writes("abca", "x"),
		writes("abcdefghijklmnopq", "x"),
		{{}},
		{write('a', "x"), {}},
		{{Key: api.Key{'a'}}},
		{{Item: of(1, "")}},
		{{Key: api.Key{'a', 'a'}, Item: of(1, "")}, write('a', "")},
	}
	for _, k := range []api.Key{{}, {0, 'a'}, {'a', 0, 'b'}, {0, 0, 0, 0, 0, 0, 0, 1}, {'a', 0, 0, 0, 0, 0, 0, 'a'}} {
		out = append(out, []api.Write{{Key: k, Item: of(1, "")}}, []api.Write{{Key: k, Item: of(1, "")}, write('z', "")})
	}
	for _, i := range []api.Item{
		of(most+1, ""),
		of(1, strings.Repeat("a", mostBytes+1)),
		{Version: 1, Conf: conf(0, 2, 2, 1, 1, 1)},
		{Version: 1, Conf: conf(1, 1, 2, 1, 1, 1)},
		{Version: 1, Conf: conf(1, 2, 4, 1, 1, 1)},
		{Version: 1, Conf: conf(1, 16, 16, 16)},
	} {
		out = append(out, []api.Write{{Key: api.Key{'a'}, Item: i}}, []api.Write{write('A', ""), {Key: api.Key{'a'}, Item: i}})
	}
	return out
}

// otherLists are lists that differ from the one that is told first, each in another way, and may be.
func otherLists() ([]api.Write, [][]api.Write) {
	list := []api.Write{{Key: api.Key{'b'}, Item: of(3, "abc")}, {Key: api.Key{'d'}, Item: of(3, "abc")}}
	out := [][]api.Write{
		list[:1],
		list[1:],
		append(slices.Clone(list), write('e', "")),
		append([]api.Write{write('a', "")}, list...),
		{list[0], write('c', "x"), list[1]},
		{list[0], {Key: api.Key{'c'}, Item: list[1].Item}},
		{{Key: api.Key{'b', 'b'}, Item: list[0].Item}, list[1]},
	}
	for _, i := range []api.Item{
		of(2, "abc"),
		of(4, "abc"),
		of(3, "abd"),
		of(3, ""),
		of(3, "abc\x00"),
		{Version: 3, Value: "abc", Conf: conf(2, 2, 2, 1, 1, 1)},
		{Version: 3, Value: "abc", Conf: conf(1, 3, 2, 1, 1, 1)},
		{Version: 3, Value: "abc", Conf: conf(1, 2, 3, 1, 1, 1)},
		{Version: 3, Value: "abc", Conf: conf(1, 2, 2, 1, 1, 0, 0, 0, 0, 0, 1)},
	} {
		out = append(out, []api.Write{{Key: api.Key{'b'}, Item: i}, list[1]}, []api.Write{list[0], {Key: api.Key{'d'}, Item: i}})
	}
	return list, out
}

// entry is a prepared transaction, as a test tells it.
type entry struct {
	tx     api.Tx
	reg    api.Reg
	writes []api.Write
}

// stageOf is a stage in which transactions were put.
func stageOf(t *testing.T, list ...entry) *stage.Stage {
	t.Helper()
	s := stage.New()
	for _, e := range list {
		must(t, "Put", s.Put(e.tx, e.reg, e.writes), api.OK)
	}
	return s
}

// full are as many transactions as a stage can have, rising, that write a key each.
func full() []entry {
	var out []entry
	for n := range mostPrepared {
		k := api.Key{'k', byte(n + 1)}
		out = append(out, entry{tx(uint8(n/8), 1, uint32(n+1)), reg(1, uint32(n+1)), []api.Write{{Key: k, Item: of(1, "x")}}})
	}
	return out
}

// has asks for just those transactions, that rise, by each call that tells of them.
func has(t *testing.T, s *stage.Stage, want ...entry) {
	t.Helper()
	var names []api.Tx
	for _, e := range want {
		names = append(names, e.tx)
		l, g, is := s.Writes(e.tx)
		if !slices.Equal(l, e.writes) || g != e.reg || !is {
			t.Fatalf("%v: %v, %v, %v; want %v", e.tx, l, g, is, e)
		}
		for _, w := range e.writes {
			owned(t, s, w.Key, e.tx)
		}
	}
	if got := s.All(); !slices.Equal(got, names) {
		t.Fatalf("it has %v; want %v", got, names)
	}
}

// owned asks for a key's owner.
func owned(t *testing.T, s *stage.Stage, k api.Key, want api.Tx) {
	t.Helper()
	if got, is := s.Owner(k); got != want || !is {
		t.Fatalf("%v is written by %v, %v; want %v", k, got, is, want)
	}
}

// free asks that a key has no owner.
func free(t *testing.T, s *stage.Stage, keys ...api.Key) {
	t.Helper()
	for _, k := range keys {
		if got, is := s.Owner(k); got != (api.Tx{}) || is {
			t.Fatalf("%v is written by %v, %v", k, got, is)
		}
	}
}

// hasNot asks that a transaction is not there.
func hasNot(t *testing.T, s *stage.Stage, x api.Tx) {
	t.Helper()
	if l, g, is := s.Writes(x); len(l) != 0 || g != (api.Reg{}) || is {
		t.Fatalf("%v: %v, %v, %v", x, l, g, is)
	}
}

// taken takes a transaction, that has to have those writes.
func taken(t *testing.T, s *stage.Stage, x api.Tx, want []api.Write) {
	t.Helper()
	got, why := s.Take(x)
	must(t, "Take", why, api.OK)
	if !slices.Equal(got, want) {
		t.Fatalf("%v: %v; want %v", x, got, want)
	}
}

// notTaken is a Take that has to be refused.
func notTaken(t *testing.T, s *stage.Stage, x api.Tx, want api.Errno) {
	t.Helper()
	got, why := s.Take(x)
	must(t, "Take", why, want)
	if len(got) != 0 {
		t.Fatalf("%v: %v", x, got)
	}
}

// must is an error that has to be that one.
func must(t *testing.T, what string, got, want api.Errno) {
	t.Helper()
	if got != want {
		t.Fatalf("%s: %v; want %v", what, got, want)
	}
}

// model is a stage as a list of what was put, told without package stage; all that is put into it may be.
type model []entry

func (m *model) find(x api.Tx) int {
	return slices.IndexFunc(*m, func(e entry) bool { return e.tx == x })
}

func (m *model) owner(k api.Key) (api.Tx, bool) {
	for _, e := range *m {
		if slices.ContainsFunc(e.writes, func(w api.Write) bool { return w.Key == k }) {
			return e.tx, true
		}
	}
	return api.Tx{}, false
}

func (m *model) put(e entry) api.Errno {
	if at := m.find(e.tx); at >= 0 {
		if (*m)[at].reg == e.reg && slices.Equal((*m)[at].writes, e.writes) {
			return api.OK
		}
		return api.ErrThere
	}
	for _, w := range e.writes {
		if _, is := m.owner(w.Key); is {
			return api.ErrState
		}
	}
	if len(*m) == mostPrepared {
		return api.ErrMany
	}
	*m = append(*m, e)
	return api.OK
}

func (m *model) take(x api.Tx) ([]api.Write, api.Errno) {
	at := m.find(x)
	if at < 0 {
		return nil, api.ErrNone
	}
	l := (*m)[at].writes
	*m = slices.Delete(*m, at, at+1)
	return l, api.OK
}

func (m *model) rising() []entry {
	out := slices.Clone(*m)
	slices.SortFunc(out, func(a, b entry) int {
		return cmp.Or(cmp.Compare(a.tx.Node, b.tx.Node), cmp.Compare(a.tx.Boot, b.tx.Boot), cmp.Compare(a.tx.Num, b.tx.Num))
	})
	return out
}

// chance is a row of numbers, the same each time.
type chance uint64

func (x *chance) below(n int) int {
	*x ^= *x << 13
	*x ^= *x >> 7
	*x ^= *x << 17
	return int(uint64(*x>>11) % uint64(n))
}

// shuffled is a list in another order.
func shuffled[T any](x *chance, list []T) []T {
	out := slices.Clone(list)
	for n := range out {
		m := n + x.below(len(out)-n)
		out[n], out[m] = out[m], out[n]
	}
	return out
}

// risingKeys are keys in order, each once.
func risingKeys(list []api.Key) []api.Key {
	out := slices.Clone(list)
	slices.SortFunc(out, func(a, b api.Key) int { return bytes.Compare(a[:], b[:]) })
	return slices.Compact(out)
}
