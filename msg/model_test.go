package msg_test

import (
	"slices"
	"strings"

	"parrel/api"
	"parrel/bits"
	"parrel/msg"
)

// The limits, as the document tells them.
const (
	most      = 1<<31 - 1
	mostBytes = 64
	mostFrame = 1 << 12
	mostList  = 16
)

// order is the chapter's table: the kinds, and their fields that count.
func order() map[uint8][]string {
	return map[uint8][]string{
		1:  {"Tx", "Time", "Reg", "Key", "Mode", "No"},
		2:  {"Tx", "Reg", "Key", "Mode", "No", "Item"},
		3:  {"Tx", "No", "Why"},
		4:  {"Tx", "Reg"},
		5:  {"Tx", "Reg", "Writes"},
		6:  {"Tx", "Reg", "Yes"},
		7:  {"Tx", "Yes"},
		8:  {"Tx"},
		9:  {"Tx"},
		10: {"Tx", "Key", "Item"},
		11: {"Tx", "Key"},
	}
}

// kinds are all of them, rising, so that the tests are the same each time.
func kinds() []uint8 {
	var out []uint8
	for kind := range uint8(11) {
		out = append(out, kind+1)
	}
	return out
}

// piece is the bytes of one field of layer 3, and the most that its number, or the number ahead of it, may be (0: it has none).
type piece struct {
	bytes  []byte
	number uint64
	most   uint64
}

func number(n, most uint64) piece { return piece{bits.Short(nil, n), n, most} }

func single(c byte) piece { return piece{bytes: []byte{c}} }

func text(s string) piece {
	return piece{append(bits.Short(nil, uint64(len(s))), s...), uint64(len(s)), mostBytes}
}

func key(k api.Key) piece { return piece{bytes: k[:]} }

func piecesOfItem(i api.Item) []piece {
	out := []piece{number(uint64(i.Version), most), text(i.Value),
		number(uint64(i.Conf.Epoch), most), number(uint64(i.Conf.R), 255), number(uint64(i.Conf.W), 255)}
	for _, v := range i.Conf.Votes {
		out = append(out, single(v))
	}
	return out
}

func piecesOfWrites(l []api.Write) []piece {
	out := []piece{number(uint64(len(l)), mostList)}
	for _, x := range l {
		out = append(out, key(x.Key))
		out = append(out, piecesOfItem(x.Item)...)
	}
	return out
}

// piecesOf are a message's bytes, whether or not it may be, told without package msg.
func piecesOf(m msg.Msg) []piece {
	out := []piece{single(m.Kind)}
	for _, name := range order()[m.Kind] {
		switch name {
		case "Tx":
			out = append(out, single(m.Tx.Node), number(uint64(m.Tx.Boot), most), number(uint64(m.Tx.Num), most))
		case "Time":
			out = append(out, number(uint64(m.Time), most))
		case "Reg":
			out = append(out, number(uint64(m.Reg.Boot), most), number(uint64(m.Reg.N), most))
		case "Key":
			out = append(out, key(m.Key))
		case "Mode":
			out = append(out, single(m.Mode))
		case "No":
			out = append(out, number(uint64(m.No), most))
		case "Why":
			out = append(out, number(uint64(m.Why), 17))
		case "Yes":
			out = append(out, single(m.Yes))
		case "Item":
			out = append(out, piecesOfItem(m.Item)...)
		case "Writes":
			out = append(out, piecesOfWrites(m.Writes)...)
		}
	}
	return out
}

func join(pieces []piece) []byte {
	var out []byte
	for _, p := range pieces {
		out = append(out, p.bytes...)
	}
	return out
}

// tooHigh is the fault of the first number that is above its most, if there is one.
func tooHigh(pieces []piece) (api.Fault, bool) {
	at := 0
	for _, p := range pieces {
		if p.number > p.most {
			return fault(api.ErrMany, at), true
		}
		at += len(p.bytes)
	}
	return api.Fault{}, false
}

func fault(why api.Errno, at int) api.Fault { return api.Fault{Why: why, At: at} }

// edit sets a field to a value. It may be in messages of some kinds in which the field counts: in all, in none, or in those named.
type edit struct {
	set  func(m *msg.Msg)
	may  bool
	also []uint8
}

func (e edit) mayIn(kind uint8) bool { return e.may || slices.Contains(e.also, kind) }

// edits are values of each field, and the first one of each is zero.
func edits() map[string][]edit {
	out := map[string][]edit{}
	add := func(name string, may bool, set func(m *msg.Msg), also ...uint8) {
		out[name] = append(out[name], edit{set, may, also})
	}
	for _, x := range []api.Tx{{}, {Boot: 1}, {Num: 1}, {Node: 8, Boot: 1, Num: 1}, {Node: 255, Boot: 1, Num: 1}, {Node: 1},
		{Node: 1, Boot: 1 << 31, Num: 1}, {Node: 1, Boot: 1, Num: 1 << 31}, {Node: 1, Boot: 1<<32 - 1, Num: 1<<32 - 1}} {
		add("Tx", false, func(m *msg.Msg) { m.Tx = x })
	}
	for _, x := range []api.Tx{{Boot: 1, Num: 1}, {Node: 1, Boot: 2, Num: 3}, {Node: 7, Boot: most, Num: most}, {Node: 3, Boot: 128, Num: 127}} {
		add("Tx", true, func(m *msg.Msg) { m.Tx = x })
	}
	for _, n := range []uint32{0, 1, 127, 128, 300, most, 1 << 31, 1<<32 - 1} {
		add("Time", n <= most, func(m *msg.Msg) { m.Time = n })
		add("No", n <= most, func(m *msg.Msg) { m.No = n })
	}
	add("Reg", false, func(m *msg.Msg) { m.Reg = api.Reg{} }, msg.Ask, msg.Prepare)
	for _, g := range []api.Reg{{Boot: 1}, {N: 1}, {Boot: 1 << 31, N: 1}, {Boot: 1, N: 1 << 31}, {N: most}} {
		add("Reg", false, func(m *msg.Msg) { m.Reg = g })
	}
	for _, g := range []api.Reg{{Boot: 1, N: 1}, {Boot: 9, N: 200}, {Boot: most, N: most}} {
		add("Reg", true, func(m *msg.Msg) { m.Reg = g })
	}
	for _, k := range []api.Key{{}, {0, 'a'}, {'a', 0, 'b'}, {0, 0, 0, 0, 0, 0, 0, 1}, {1, 2, 3, 4, 5, 6, 0, 8}} {
		add("Key", false, func(m *msg.Msg) { m.Key = k })
	}
	for _, k := range []api.Key{{'a'}, {'a', 'b'}, {1, 2, 3, 4, 5, 6, 7, 8}, {255, 255, 255, 255, 255, 255, 255, 255}} {
		add("Key", true, func(m *msg.Msg) { m.Key = k })
	}
	for n := range 256 {
		c := uint8(n)
		add("Mode", c == 1 || c == 2, func(m *msg.Msg) { m.Mode = c })
		add("Why", c >= 1 && c <= 17, func(m *msg.Msg) { m.Why = c })
		if c == 3 {
			add("Yes", false, func(m *msg.Msg) { m.Yes = c }, msg.Vote)
		} else {
			add("Yes", c == 1 || c == 2, func(m *msg.Msg) { m.Yes = c })
		}
	}
	add("Item", false, func(m *msg.Msg) { m.Item = api.Item{} })
	for _, i := range badItems() {
		add("Item", false, func(m *msg.Msg) { m.Item = i })
	}
	for _, i := range goodItems() {
		add("Item", true, func(m *msg.Msg) { m.Item = i })
	}
	add("Writes", true, func(m *msg.Msg) { m.Writes = nil })
	for _, l := range badWrites() {
		add("Writes", false, func(m *msg.Msg) { m.Writes = l })
	}
	for _, l := range goodWrites() {
		add("Writes", true, func(m *msg.Msg) { m.Writes = l })
	}
	return out
}

// fieldNames are the fields of a message, but its kind.
func fieldNames() []string {
	return []string{"Tx", "Time", "Reg", "Key", "Mode", "No", "Why", "Yes", "Item", "Writes"}
}

func conf(epoch uint32, r, w uint8, votes ...uint8) api.Config {
	c := api.Config{Epoch: epoch, R: r, W: w}
	copy(c.Votes[:], votes)
	return c
}

func three() api.Config { return conf(1, 2, 2, 1, 1, 1) }

func goodItems() []api.Item {
	return []api.Item{
		{Conf: three()},
		{Version: 1, Value: "a", Conf: three()},
		{Version: 128, Value: strings.Repeat("\x00", mostBytes-1), Conf: conf(300, 1, 3, 1, 1, 1)},
		{Version: most, Value: strings.Repeat("\xFF", mostBytes), Conf: conf(most, 120, 120, 15, 15, 15, 15, 15, 15, 15, 15)},
		{Version: 5, Value: "äß", Conf: conf(7, 1, 1, 0, 0, 0, 0, 0, 0, 0, 1)},
	}
}

// badItems are ones that may not be, none of them zero.
func badItems() []api.Item {
	return []api.Item{
		{Version: 1},
		{Value: "a"},
		{Version: 1 << 31, Conf: three()},
		{Version: 1<<32 - 1, Conf: three()},
		{Version: 1, Value: strings.Repeat("a", mostBytes+1), Conf: three()},
		{Version: 1, Value: strings.Repeat("b", 300), Conf: three()},
		{Version: 1, Conf: conf(0, 2, 2, 1, 1, 1)},
		{Version: 1, Conf: conf(1<<31, 2, 2, 1, 1, 1)},
		{Version: 1, Conf: conf(1, 1, 2, 1, 1, 1)},
		{Version: 1, Conf: conf(1, 3, 1, 1, 1, 1)},
		{Version: 1, Conf: conf(1, 2, 4, 1, 1, 1)},
		{Version: 1, Conf: conf(1, 255, 255, 1, 1, 1)},
		{Version: 1, Conf: conf(1, 16, 16, 16)},
	}
}

// writes are ones of keys of one byte each.
func writes(item api.Item, keys ...byte) []api.Write {
	var out []api.Write
	for _, c := range keys {
		out = append(out, api.Write{Key: api.Key{c}, Item: item})
	}
	return out
}

// many are so many writes whose keys rise.
func many(count int) []api.Write {
	var out []api.Write
	for n := range count {
		i := goodItems()[n%len(goodItems())]
		out = append(out, api.Write{Key: api.Key{'k', byte(n + 1)}, Item: i})
	}
	return out
}

func goodWrites() [][]api.Write {
	i := goodItems()[1]
	return [][]api.Write{
		{},
		writes(i, 1), writes(i, 'a', 'b'), writes(i, 1, 127, 128, 255),
		many(2), many(15), many(mostList),
		{{Key: api.Key{'a'}, Item: i}, {Key: api.Key{'a', 'b'}, Item: i}, {Key: api.Key{'a', 'b', 'c', 'd', 'e', 'f', 'g', 'h'}, Item: i}, {Key: api.Key{'a', 'c'}, Item: i}},
	}
}

// badWrites are ones that may not be, none of them empty.
func badWrites() [][]api.Write {
	i := goodItems()[1]
	out := [][]api.Write{
		many(mostList + 1), many(100),
		writes(i, 'a', 'a'), writes(i, 'b', 'a'), writes(i, 'a', 'c', 'b'), writes(i, 'a', 'b', 'b'), writes(i, 128, 127),
		{{}}, {{Key: api.Key{'a'}}}, {{Item: i}},
	}
	for _, at := range []int{0, 1, mostList - 1} {
		for _, bad := range append(badItems(), api.Item{}) {
			l := many(mostList)
			l[at].Item = bad
			out = append(out, l)
		}
		l := many(mostList)
		l[at].Key = api.Key{'k', byte(at + 1), 0, 'x'}
		out = append(out, l)
	}
	return out
}

// plain is a message of a kind that may be.
func plain(kind uint8) msg.Msg {
	return only(kind, msg.Msg{Tx: api.Tx{Boot: 1, Num: 1}, Reg: api.Reg{Boot: 1, N: 1}, Key: api.Key{'a'}, Mode: 1, Why: 1, Yes: 1, Item: goodItems()[0]})
}

// only is a message of a kind, with those fields of m that count in it.
func only(kind uint8, m msg.Msg) msg.Msg {
	out := msg.Msg{Kind: kind}
	for _, name := range order()[kind] {
		copyField(&out, m, name)
	}
	return out
}

func copyField(to *msg.Msg, from msg.Msg, name string) {
	switch name {
	case "Tx":
		to.Tx = from.Tx
	case "Time":
		to.Time = from.Time
	case "Reg":
		to.Reg = from.Reg
	case "Key":
		to.Key = from.Key
	case "Mode":
		to.Mode = from.Mode
	case "No":
		to.No = from.No
	case "Why":
		to.Why = from.Why
	case "Yes":
		to.Yes = from.Yes
	case "Item":
		to.Item = from.Item
	case "Writes":
		to.Writes = from.Writes
	}
}

// good are messages that may be: of each kind, with each value that a field of it may have, and with all fields' last such values.
func good() []msg.Msg {
	var out []msg.Msg
	all := edits()
	for _, kind := range kinds() {
		last := plain(kind)
		for _, name := range order()[kind] {
			for _, e := range all[name] {
				if e.mayIn(kind) {
					m := plain(kind)
					e.set(&m)
					e.set(&last)
					out = append(out, m)
				}
			}
		}
		out = append(out, last)
	}
	return out
}

// chance is a row of numbers, the same each time.
type chance uint64

func (x *chance) below(n int) int {
	*x ^= *x << 13
	*x ^= *x >> 7
	*x ^= *x << 17
	return int(uint64(*x>>11) % uint64(n))
}

// mixed are messages of any kind, whose fields that count have any values that these may have.
func mixed(count int) []msg.Msg {
	x := chance(0x9E3779B97F4A7C15)
	all := edits()
	var out []msg.Msg
	for range count {
		m := msg.Msg{Kind: kinds()[x.below(11)]}
		for _, name := range order()[m.Kind] {
			may := slices.DeleteFunc(slices.Clone(all[name]), func(e edit) bool { return !e.mayIn(m.Kind) })
			may[x.below(len(may))].set(&m)
		}
		out = append(out, m)
	}
	return out
}
