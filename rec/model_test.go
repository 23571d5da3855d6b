package rec_test

import (
	"slices"
	"strings"

	"parrel/api"
	"parrel/bits"
	"parrel/rec"
)

// The limits, as the document tells them.
const (
	most      = 1<<31 - 1
	mostBytes = 64
	mostFrame = 1 << 12
	mostList  = 16
	mostNodes = 255 // the set of all nodes
)

// order is the chapter's table: the kinds, and their fields that count.
func order() map[uint8][]string {
	return map[uint8][]string{
		1: {"N"},
		2: {"Tx", "Reg", "Writes"},
		3: {"Tx"},
		4: {"Tx"},
		5: {"Tx", "Members", "Writes", "Missing"},
		6: {"Tx"},
		7: {"Key", "Item"},
	}
}

// kinds are all of them, rising, so that the tests are the same each time.
func kinds() []uint8 { return []uint8{1, 2, 3, 4, 5, 6, 7} }

// fieldNames are the fields of a record, but its kind.
func fieldNames() []string {
	return []string{"N", "Tx", "Reg", "Members", "Writes", "Missing", "Key", "Item"}
}

// piece is the bytes of one field of layer 3, and the most that its number, or the number ahead of it, may be (0: it has none).
type piece struct {
	bytes  []byte
	number uint64
	most   uint64
}

func number(n, most uint64) piece { return piece{bits.Short(nil, n), n, most} }

func single(c byte) piece { return piece{bytes: []byte{c}} }

func text(s string) piece {
	return piece{append(bits.Short(nil, uint64(len(s))), s...), uint64(len(s)), mostBytes}
}

func key(k api.Key) piece { return piece{bytes: k[:]} }

func piecesOfItem(i api.Item) []piece {
	out := []piece{number(uint64(i.Version), most), text(i.Value),
		number(uint64(i.Conf.Epoch), most), number(uint64(i.Conf.R), 255), number(uint64(i.Conf.W), 255)}
	for _, v := range i.Conf.Votes {
		out = append(out, single(v))
	}
	return out
}

func piecesOfWrites(l []api.Write) []piece {
	out := []piece{number(uint64(len(l)), mostList)}
	for _, x := range l {
		out = append(out, key(x.Key))
		out = append(out, piecesOfItem(x.Item)...)
	}
	return out
}

// piecesOf are a record's bytes, whether or not it may be, told without package rec.
func piecesOf(r rec.Rec) []piece {
	out := []piece{single(r.Kind)}
	for _, name := range order()[r.Kind] {
		switch name {
		case "N":
			out = append(out, number(uint64(r.N), most))
		case "Tx":
			out = append(out, single(r.Tx.Node), number(uint64(r.Tx.Boot), most), number(uint64(r.Tx.Num), most))
		case "Reg":
			out = append(out, number(uint64(r.Reg.Boot), most), number(uint64(r.Reg.N), most))
		case "Members":
			out = append(out, number(r.Members, mostNodes))
		case "Writes":
			out = append(out, piecesOfWrites(r.Writes)...)
		case "Missing":
			for _, set := range r.Missing {
				out = append(out, number(set, mostNodes))
			}
		case "Key":
			out = append(out, key(r.Key))
		case "Item":
			out = append(out, piecesOfItem(r.Item)...)
		}
	}
	return out
}

func join(pieces []piece) []byte {
	var out []byte
	for _, p := range pieces {
		out = append(out, p.bytes...)
	}
	return out
}

// tooHigh is the fault of the first number that is above its most, if there is one.
func tooHigh(pieces []piece) (api.Fault, bool) {
	at := 0
	for _, p := range pieces {
		if p.number > p.most {
			return fault(api.ErrMany, at), true
		}
		at += len(p.bytes)
	}
	return api.Fault{}, false
}

func fault(why api.Errno, at int) api.Fault { return api.Fault{Why: why, At: at} }

// edit sets a field to a value, which may be or not where the field counts.
type edit struct {
	set func(r *rec.Rec)
	may bool
}

// edits are values of each field but Missing, whose sets are as many as the writes, and the first one of each is zero.
func edits() map[string][]edit {
	out := map[string][]edit{}
	add := func(name string, may bool, set func(r *rec.Rec)) {
		out[name] = append(out[name], edit{set, may})
	}
	for _, n := range []uint32{0, 1, 2, 127, 128, 300, most - 1, most, 1 << 31, 1<<32 - 1} {
		add("N", n >= 1 && n <= most, func(r *rec.Rec) { r.N = n })
	}
	for _, x := range []api.Tx{{}, {Boot: 1}, {Num: 1}, {Node: 8, Boot: 1, Num: 1}, {Node: 255, Boot: 1, Num: 1}, {Node: 1},
		{Node: 1, Boot: 1 << 31, Num: 1}, {Node: 1, Boot: 1, Num: 1 << 31}, {Node: 1, Boot: 1<<32 - 1, Num: 1<<32 - 1}} {
		add("Tx", false, func(r *rec.Rec) { r.Tx = x })
	}
	for _, x := range []api.Tx{{Boot: 1, Num: 1}, {Node: 1, Boot: 2, Num: 3}, {Node: 7, Boot: most, Num: most}, {Node: 3, Boot: 128, Num: 127}} {
		add("Tx", true, func(r *rec.Rec) { r.Tx = x })
	}
	for _, g := range []api.Reg{{}, {Boot: 1}, {N: 1}, {Boot: 1 << 31, N: 1}, {Boot: 1, N: 1 << 31}, {N: most}} {
		add("Reg", false, func(r *rec.Rec) { r.Reg = g })
	}
	for _, g := range []api.Reg{{Boot: 1, N: 1}, {Boot: 9, N: 200}, {Boot: most, N: most}} {
		add("Reg", true, func(r *rec.Rec) { r.Reg = g })
	}
	for _, set := range sets() {
		add("Members", set <= mostNodes, func(r *rec.Rec) { r.Members = set })
	}
	add("Writes", false, func(r *rec.Rec) { r.Writes = nil })
	for _, l := range badWrites() {
		add("Writes", false, func(r *rec.Rec) { r.Writes = l })
	}
	for _, l := range goodWrites() {
		add("Writes", true, func(r *rec.Rec) { r.Writes = l })
	}
	for _, k := range []api.Key{{}, {0, 'a'}, {'a', 0, 'b'}, {0, 0, 0, 0, 0, 0, 0, 1}, {1, 2, 3, 4, 5, 6, 0, 8}} {
		add("Key", false, func(r *rec.Rec) { r.Key = k })
	}
	for _, k := range []api.Key{{'a'}, {'a', 'b'}, {1, 2, 3, 4, 5, 6, 7, 8}, {255, 255, 255, 255, 255, 255, 255, 255}} {
		add("Key", true, func(r *rec.Rec) { r.Key = k })
	}
	add("Item", false, func(r *rec.Rec) { r.Item = api.Item{} })
	for _, i := range badItems() {
		add("Item", false, func(r *rec.Rec) { r.Item = i })
	}
	for _, i := range goodItems() {
		add("Item", true, func(r *rec.Rec) { r.Item = i })
	}
	return out
}

// sets are numbers of nodes that are in a set, the empty one first, and ones that have a node too many.
func sets() []uint64 {
	return []uint64{0, 1, 2, 3, 5, 127, 128, 254, 255, 256, 257, 511, 1 << 31, 1 << 32, 1<<32 + 1, 1 << 63, 1<<64 - 1}
}

// fit gives a record in which Missing counts a set for each write.
func fit(r *rec.Rec) {
	if !slices.Contains(order()[r.Kind], "Missing") {
		return
	}
	r.Missing = nil
	for n := range r.Writes {
		r.Missing = append(r.Missing, []uint64{0, 5, 255, 128}[n%4])
	}
}

func conf(epoch uint32, r, w uint8, votes ...uint8) api.Config {
	c := api.Config{Epoch: epoch, R: r, W: w}
	copy(c.Votes[:], votes)
	return c
}

func three() api.Config { return conf(1, 2, 2, 1, 1, 1) }

func goodItems() []api.Item {
	return []api.Item{
		{Conf: three()},
		{Version: 1, Value: "a", Conf: three()},
		{Version: 128, Value: strings.Repeat("\x00", mostBytes-1), Conf: conf(300, 1, 3, 1, 1, 1)},
		{Version: most, Value: strings.Repeat("\xFF", mostBytes), Conf: conf(most, 120, 120, 15, 15, 15, 15, 15, 15, 15, 15)},
		{Version: 5, Value: "äß", Conf: conf(7, 1, 1, 0, 0, 0, 0, 0, 0, 0, 1)},
	}
}

// badItems are ones that may not be, none of them zero.
func badItems() []api.Item {
	return []api.Item{
		{Version: 1},
		{Value: "a"},
		{Version: 1 << 31, Conf: three()},
		{Version: 1<<32 - 1, Conf: three()},
		{Version: 1, Value: strings.Repeat("a", mostBytes+1), Conf: three()},
		{Version: 1, Conf: conf(0, 2, 2, 1, 1, 1)},
		{Version: 1, Conf: conf(1<<31, 2, 2, 1, 1, 1)},
		{Version: 1, Conf: conf(1, 1, 2, 1, 1, 1)},
		{Version: 1, Conf: conf(1, 2, 4, 1, 1, 1)},
		{Version: 1, Conf: conf(1, 16, 16, 16)},
	}
}

// writes are ones of keys of one byte each.
func writes(item api.Item, keys ...byte) []api.Write {
	var out []api.Write
	for _, c := range keys {
		out = append(out, api.Write{Key: api.Key{c}, Item: item})
	}
	return out
}

// many are so many writes whose keys rise.
func many(count int) []api.Write {
	var out []api.Write
	for n := range count {
		i := goodItems()[n%len(goodItems())]
		out = append(out, api.Write{Key: api.Key{'k', byte(n + 1)}, Item: i})
	}
	return out
}

func goodWrites() [][]api.Write {
	i := goodItems()[1]
	return [][]api.Write{
		writes(i, 1), writes(i, 'a', 'b'), writes(i, 1, 127, 128, 255),
		many(2), many(15), many(mostList),
		{{Key: api.Key{'a'}, Item: i}, {Key: api.Key{'a', 'b'}, Item: i}, {Key: api.Key{'a', 'b', 'c', 'd', 'e', 'f', 'g', 'h'}, Item: i}, {Key: api.Key{'a', 'c'}, Item: i}},
	}
}

// badWrites are ones that may not be, none of them empty.
func badWrites() [][]api.Write {
	i := goodItems()[1]
	out := [][]api.Write{
		many(mostList + 1), many(100),
		writes(i, 'a', 'a'), writes(i, 'b', 'a'), writes(i, 'a', 'c', 'b'), writes(i, 'a', 'b', 'b'), writes(i, 128, 127),
		{{}}, {{Key: api.Key{'a'}}}, {{Item: i}},
	}
	for _, at := range []int{0, 1, mostList - 1} {
		for _, bad := range append(badItems(), api.Item{}) {
			l := many(mostList)
			l[at].Item = bad
			out = append(out, l)
		}
		l := many(mostList)
		l[at].Key = api.Key{'k', byte(at + 1), 0, 'x'}
		out = append(out, l)
	}
	return out
}

// plain is a record of a kind that may be.
func plain(kind uint8) rec.Rec {
	return only(kind, rec.Rec{N: 1, Tx: api.Tx{Boot: 1, Num: 1}, Reg: api.Reg{Boot: 1, N: 1}, Members: 3,
		Writes: many(2), Missing: []uint64{0, 4}, Key: api.Key{'a'}, Item: goodItems()[0]})
}

// only is a record of a kind, with those fields of r that count in it.
func only(kind uint8, r rec.Rec) rec.Rec {
	out := rec.Rec{Kind: kind}
	for _, name := range order()[kind] {
		copyField(&out, r, name)
	}
	return out
}

func copyField(to *rec.Rec, from rec.Rec, name string) {
	switch name {
	case "N":
		to.N = from.N
	case "Tx":
		to.Tx = from.Tx
	case "Reg":
		to.Reg = from.Reg
	case "Members":
		to.Members = from.Members
	case "Writes":
		to.Writes = from.Writes
	case "Missing":
		to.Missing = from.Missing
	case "Key":
		to.Key = from.Key
	case "Item":
		to.Item = from.Item
	}
}

// good are records that may be: of each kind, with each value that a field of it may have, and with all fields' last such values.
func good() []rec.Rec {
	var out []rec.Rec
	all := edits()
	for _, kind := range kinds() {
		last := plain(kind)
		for _, name := range order()[kind] {
			for _, e := range all[name] {
				if e.may {
					r := plain(kind)
					e.set(&r)
					e.set(&last)
					fit(&r)
					out = append(out, r)
				}
			}
		}
		fit(&last)
		out = append(out, last)
	}
	return out
}

// chance is a row of numbers, the same each time.
type chance uint64

func (x *chance) below(n int) int {
	*x ^= *x << 13
	*x ^= *x >> 7
	*x ^= *x << 17
	return int(uint64(*x>>11) % uint64(n))
}

// mixed are records of any kind, whose fields that count have any values that these may have.
func mixed(count int) []rec.Rec {
	x := chance(0x9E3779B97F4A7C15)
	all := edits()
	for name := range all {
		all[name] = slices.DeleteFunc(all[name], func(e edit) bool { return !e.may })
	}
	var out []rec.Rec
	for range count {
		r := rec.Rec{Kind: kinds()[x.below(7)]}
		for _, name := range order()[r.Kind] {
			if name == "Missing" {
				for range r.Writes {
					r.Missing = append(r.Missing, uint64(x.below(256)))
				}
				continue
			}
			all[name][x.below(len(all[name]))].set(&r)
		}
		out = append(out, r)
	}
	return out
}
