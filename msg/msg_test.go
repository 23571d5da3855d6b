package msg_test

import (
	"bytes"
	"slices"
	"strings"
	"testing"

	"parrel/api"
	"parrel/bits"
	"parrel/code"
	"parrel/msg"
)

// P10.1

func TestExample(t *testing.T) {
	m := msg.Msg{Kind: msg.Ack, Tx: api.Tx{Node: 1, Boot: 2, Num: 3}}
	b, why := msg.Encode(m)
	if why != api.OK || !bytes.Equal(b, []byte{8, 1, 2, 3}) {
		t.Fatalf("% X, %v", b, why)
	}
	if got, f := msg.Decode(b); !msg.Same(got, m) || f != (api.Fault{}) {
		t.Error(got, f)
	}
}

func TestKinds(t *testing.T) {
	names := []uint8{msg.Ask, msg.Grant, msg.Refuse, msg.Wound, msg.Prepare, msg.Vote, msg.Decide, msg.Ack, msg.Inquire, msg.Fresh, msg.Kept}
	if !slices.Equal(names, kinds()) {
		t.Error(names)
	}
}

// Each field of each kind, at each value: where it counts it may be or not, and where it does not it is zero.
func TestMay(t *testing.T) {
	all := edits()
	for _, kind := range kinds() {
		if !msg.May(plain(kind)) {
			t.Fatalf("%v may be", plain(kind))
		}
		for _, name := range fieldNames() {
			for _, e := range all[name] {
				m := plain(kind)
				e.set(&m)
				want := e.mayIn(kind)
				if !slices.Contains(order()[kind], name) {
					want = msg.Same(m, plain(kind))
				}
				if got := msg.May(m); got != want {
					t.Errorf("kind %d, %s: %v: %v", kind, name, m, got)
				}
				checkEncode(t, m, want)
			}
		}
	}
}

// checkEncode asks for the bytes of a message that may be, and for ErrArg of one that may not.
func checkEncode(t *testing.T, m msg.Msg, may bool) {
	t.Helper()
	b, why := msg.Encode(m)
	if may && (why != api.OK || !bytes.Equal(b, join(piecesOf(m)))) {
		t.Errorf("%v: % X, %v, not % X", m, b, why, join(piecesOf(m)))
	}
	if !may && (why != api.ErrArg || len(b) != 0) {
		t.Errorf("%v: % X, %v", m, b, why)
	}
}

func TestKindsThatAreNone(t *testing.T) {
	for n := range 256 {
		kind := uint8(n)
		if kind >= 1 && kind <= 11 {
			continue
		}
		for _, from := range kinds() {
			m := plain(from)
			m.Kind = kind
			if msg.May(m) {
				t.Errorf("%v may not be", m)
			}
			checkEncode(t, m, false)
		}
		if msg.May(msg.Msg{Kind: kind}) {
			t.Errorf("kind %d may not be", kind)
		}
		checkEncode(t, msg.Msg{Kind: kind}, false)
	}
}

// A zero Reg may be in an Ask and a Prepare alone, half a one nowhere, and a 3 in a Vote alone.
func TestFieldsThatHangOnTheKind(t *testing.T) {
	tx, reg := api.Tx{Node: 1, Boot: 1, Num: 1}, api.Reg{Boot: 1, N: 1}
	for _, c := range []struct {
		m    msg.Msg
		want bool
	}{
		{msg.Msg{Kind: msg.Ask, Tx: tx, Key: api.Key{'a'}, Mode: 1}, true},
		{msg.Msg{Kind: msg.Ask, Tx: tx, Key: api.Key{'a'}, Mode: 1, Reg: api.Reg{N: 1}}, false},
		{msg.Msg{Kind: msg.Prepare, Tx: tx}, true},
		{msg.Msg{Kind: msg.Prepare, Tx: tx, Reg: api.Reg{Boot: 1}}, false},
		{msg.Msg{Kind: msg.Grant, Tx: tx, Key: api.Key{'a'}, Mode: 2, Item: goodItems()[0]}, false},
		{msg.Msg{Kind: msg.Grant, Tx: tx, Key: api.Key{'a'}, Mode: 2, Item: goodItems()[0], Reg: reg}, true},
		{msg.Msg{Kind: msg.Wound, Tx: tx}, false},
		{msg.Msg{Kind: msg.Wound, Tx: tx, Reg: reg}, true},
		{msg.Msg{Kind: msg.Vote, Tx: tx, Yes: 1}, false},
		{msg.Msg{Kind: msg.Vote, Tx: tx, Reg: reg, Yes: 3}, true},
		{msg.Msg{Kind: msg.Vote, Tx: tx, Reg: reg, Yes: 4}, false},
		{msg.Msg{Kind: msg.Vote, Tx: tx, Reg: reg}, false},
		{msg.Msg{Kind: msg.Decide, Tx: tx, Yes: 2}, true},
		{msg.Msg{Kind: msg.Decide, Tx: tx, Yes: 3}, false},
		{msg.Msg{Kind: msg.Ack, Tx: tx, Yes: 1}, false},
	} {
		if got := msg.May(c.m); got != c.want {
			t.Errorf("%v: %v", c.m, got)
		}
		checkEncode(t, c.m, c.want)
	}
}

func TestItemMay(t *testing.T) {
	for _, i := range goodItems() {
		if !msg.ItemMay(i) {
			t.Errorf("%v may be", i)
		}
	}
	for _, i := range append(badItems(), api.Item{}) {
		if msg.ItemMay(i) {
			t.Errorf("%v may not be", i)
		}
	}
	for size := range 200 {
		i := api.Item{Value: strings.Repeat("x", size), Conf: three()}
		if got := msg.ItemMay(i); got != (size <= mostBytes) {
			t.Errorf("%d bytes: %v", size, got)
		}
	}
}

func TestWritesMay(t *testing.T) {
	for _, l := range append(goodWrites(), nil) {
		if !msg.WritesMay(l) {
			t.Errorf("%v may be", l)
		}
	}
	for _, l := range badWrites() {
		if msg.WritesMay(l) {
			t.Errorf("%v may not be", l)
		}
	}
	for count := range 40 {
		if got := msg.WritesMay(many(count)); got != (count <= mostList) {
			t.Errorf("%d writes: %v", count, got)
		}
	}
}

// Any two of many writes that are turned round rise no more.
func TestWritesRise(t *testing.T) {
	for a := range mostList {
		for b := range mostList {
			l := many(mostList)
			l[a], l[b] = l[b], l[a]
			if got := msg.WritesMay(l); got != (a == b) {
				t.Errorf("%d and %d: %v", a, b, got)
			}
			l = many(mostList)
			l[a].Key = l[b].Key
			if got := msg.WritesMay(l); got != (a == b) {
				t.Errorf("%d twice, at %d: %v", b, a, got)
			}
		}
	}
}

// Same tells apart any two values of a field, of messages that may be and that may not.
func TestSame(t *testing.T) {
	all := edits()
	for _, kind := range []uint8{0, msg.Ask, msg.Prepare, msg.Ack, 12, 255} {
		for _, name := range fieldNames() {
			for i, one := range all[name] {
				for j, two := range all[name] {
					a, b := msg.Msg{Kind: kind, Tx: api.Tx{Node: 9}, No: 4}, msg.Msg{Kind: kind, Tx: api.Tx{Node: 9}, No: 4}
					one.set(&a)
					two.set(&b)
					want := i == j || name == "Writes" && len(a.Writes)+len(b.Writes) == 0
					if msg.Same(a, b) != want || msg.Same(b, a) != want {
						t.Fatalf("%v and %v: %v, %v", a, b, msg.Same(a, b), msg.Same(b, a))
					}
				}
			}
		}
	}
	for a := range 256 {
		for b := range 256 {
			one, two := plain(msg.Ack), plain(msg.Ack)
			one.Kind, two.Kind = uint8(a), uint8(b)
			if msg.Same(one, two) != (a == b) {
				t.Fatal("kinds", a, b)
			}
		}
	}
}

func TestSameOfWrites(t *testing.T) {
	base := msg.Msg{Kind: msg.Prepare, Writes: many(3)}
	for at := range 3 {
		for what, turn := range map[string]func(x *api.Write){
			"key":     func(x *api.Write) { x.Key[7]++ },
			"version": func(x *api.Write) { x.Item.Version++ },
			"value":   func(x *api.Write) { x.Item.Value += "x" },
			"epoch":   func(x *api.Write) { x.Item.Conf.Epoch++ },
			"r":       func(x *api.Write) { x.Item.Conf.R++ },
			"w":       func(x *api.Write) { x.Item.Conf.W++ },
			"votes":   func(x *api.Write) { x.Item.Conf.Votes[7]++ },
		} {
			other := msg.Msg{Kind: msg.Prepare, Writes: many(3)}
			if !msg.Same(base, other) {
				t.Fatal("the same writes")
			}
			turn(&other.Writes[at])
			if msg.Same(base, other) || msg.Same(other, base) {
				t.Error(what, at)
			}
		}
		short := msg.Msg{Kind: msg.Prepare, Writes: many(at)}
		if msg.Same(base, short) || msg.Same(short, base) {
			t.Error(at, "writes")
		}
	}
	if !msg.Same(msg.Msg{Writes: nil}, msg.Msg{Writes: []api.Write{}}) {
		t.Error("a list that is nil and one that is empty are the same")
	}
}

// Messages whose bytes were told by hand, one of each kind.
func TestBytes(t *testing.T) {
	tx, reg, k := api.Tx{Node: 7, Boot: 300, Num: 1}, api.Reg{Boot: 2, N: 128}, api.Key{'a', 'b'}
	item := api.Item{Version: 129, Value: "xyz", Conf: conf(4, 2, 3, 1, 0, 2, 1)}
	name := []byte{7, 0xAC, 2, 1}
	asReg := []byte{2, 0x80, 1}
	asKey := []byte{'a', 'b', 0, 0, 0, 0, 0, 0}
	asItem := []byte{0x81, 1, 3, 'x', 'y', 'z', 4, 2, 3, 1, 0, 2, 1, 0, 0, 0, 0}
	for _, c := range []struct {
		m    msg.Msg
		want []byte
	}{
		{msg.Msg{Kind: msg.Ask, Tx: tx, Time: 5, Reg: reg, Key: k, Mode: 2, No: 200}, slices.Concat([]byte{1}, name, []byte{5}, asReg, asKey, []byte{2, 0xC8, 1})},
		{msg.Msg{Kind: msg.Ask, Tx: tx, Key: k, Mode: 1}, slices.Concat([]byte{1}, name, []byte{0, 0, 0}, asKey, []byte{1, 0})},
		{msg.Msg{Kind: msg.Grant, Tx: tx, Reg: reg, Key: k, Mode: 1, No: 6, Item: item}, slices.Concat([]byte{2}, name, asReg, asKey, []byte{1, 6}, asItem)},
		{msg.Msg{Kind: msg.Refuse, Tx: tx, No: 6, Why: 17}, slices.Concat([]byte{3}, name, []byte{6, 17})},
		{msg.Msg{Kind: msg.Wound, Tx: tx, Reg: reg}, slices.Concat([]byte{4}, name, asReg)},
		{msg.Msg{Kind: msg.Prepare, Tx: tx, Reg: reg, Writes: []api.Write{{Key: k, Item: item}, {Key: api.Key{'c'}, Item: item}}},
			slices.Concat([]byte{5}, name, asReg, []byte{2}, asKey, asItem, []byte{'c', 0, 0, 0, 0, 0, 0, 0}, asItem)},
		{msg.Msg{Kind: msg.Prepare, Tx: tx, Reg: reg}, slices.Concat([]byte{5}, name, asReg, []byte{0})},
		{msg.Msg{Kind: msg.Vote, Tx: tx, Reg: reg, Yes: 3}, slices.Concat([]byte{6}, name, asReg, []byte{3})},
		{msg.Msg{Kind: msg.Decide, Tx: tx, Yes: 2}, slices.Concat([]byte{7}, name, []byte{2})},
		{msg.Msg{Kind: msg.Ack, Tx: tx}, slices.Concat([]byte{8}, name)},
		{msg.Msg{Kind: msg.Inquire, Tx: tx}, slices.Concat([]byte{9}, name)},
		{msg.Msg{Kind: msg.Fresh, Tx: tx, Key: k, Item: item}, slices.Concat([]byte{10}, name, asKey, asItem)},
		{msg.Msg{Kind: msg.Kept, Tx: tx, Key: k}, slices.Concat([]byte{11}, name, asKey)},
	} {
		b, why := msg.Encode(c.m)
		if why != api.OK || !bytes.Equal(b, c.want) {
			t.Errorf("%v: % X, %v, not % X", c.m, b, why, c.want)
		}
		if m, f := msg.Decode(c.want); !msg.Same(m, c.m) || f != (api.Fault{}) {
			t.Errorf("% X: %v, %v, not %v", c.want, m, f, c.m)
		}
	}
}

// P10.2

// checkDecode asks for a fault, and with it for nothing.
func checkDecode(t *testing.T, b []byte, want api.Fault) {
	t.Helper()
	if m, f := msg.Decode(b); f != want || !msg.Same(m, msg.Msg{}) {
		t.Errorf("% X: %v, %v, not %v", b, m, f, want)
	}
}

func TestDecodeOfKindsThatAreNone(t *testing.T) {
	checkDecode(t, nil, fault(api.ErrEnd, 0))
	checkDecode(t, []byte{}, fault(api.ErrEnd, 0))
	for n := range 256 {
		if n >= 1 && n <= 11 {
			continue
		}
		checkDecode(t, []byte{byte(n)}, fault(api.ErrForm, 0))
		checkDecode(t, []byte{byte(n), 1, 2, 3}, fault(api.ErrForm, 0))
	}
}

// Each field of each kind, at each value that is not the one that it may have: a number above its most is told where it stands, all else of the whole.
func TestDecodeOfWhatMayNotBe(t *testing.T) {
	all := edits()
	for _, kind := range kinds() {
		for _, name := range order()[kind] {
			for _, e := range all[name] {
				m := plain(kind)
				e.set(&m)
				if e.mayIn(kind) {
					continue
				}
				want, is := tooHigh(piecesOf(m))
				if !is {
					want = fault(api.ErrForm, 0)
				}
				checkDecode(t, join(piecesOf(m)), want)
			}
		}
	}
}

// Bytes that end are a fault of the field that they end in.
func TestDecodeOfWhatIsCut(t *testing.T) {
	for _, m := range good() {
		b := join(piecesOf(m))
		begin := 0
		for _, p := range piecesOf(m) {
			for size := range p.bytes {
				checkDecode(t, b[:begin+size], fault(api.ErrEnd, begin))
			}
			begin += len(p.bytes)
		}
	}
}

func TestDecodeOfBytesBehind(t *testing.T) {
	for _, m := range good() {
		b := join(piecesOf(m))
		for _, more := range [][]byte{{0}, {255}, {1, 2, 3}, b} {
			checkDecode(t, slices.Concat(b, more), fault(api.ErrForm, len(b)))
		}
	}
	// They are named ahead of a message that may not be, and a field's fault ahead of them.
	checkDecode(t, []byte{7, 1, 2, 3, 9}, fault(api.ErrForm, 0))
	checkDecode(t, []byte{7, 1, 2, 3, 9, 5}, fault(api.ErrForm, 5))
	checkDecode(t, []byte{3, 1, 2, 3, 4, 18, 5}, fault(api.ErrMany, 5))
	checkDecode(t, []byte{8, 9, 0x80, 0, 3, 5}, fault(api.ErrForm, 2))
}

// Each number in turn, above its most, and in a form that it has not: with a text's bytes, or a list's, behind it.
func TestDecodeOfNumbers(t *testing.T) {
	for _, m := range good() {
		pieces := piecesOf(m)
		begin := 0
		for n, p := range pieces {
			if p.most > 0 {
				size := len(bits.Short(nil, p.number))
				ahead, behind := join(pieces[:n]), slices.Concat(p.bytes[size:], join(pieces[n+1:]))
				long := slices.Clone(p.bytes[:size])
				long[size-1] |= 0x80
				checkDecode(t, slices.Concat(ahead, long, []byte{0}, behind), fault(api.ErrForm, begin))
				for _, high := range []uint64{p.most + 1, 1 << 32, 1<<32 + p.number, 1<<64 - 1} {
					checkDecode(t, slices.Concat(ahead, bits.Short(nil, high), behind), fault(api.ErrMany, begin))
				}
			}
			begin += len(p.bytes)
		}
	}
}

// Of two fields that have a fault the first one is told of.
func TestTheFirstFault(t *testing.T) {
	checkDecode(t, []byte{3, 1, 0x80, 0, 3, 4, 18}, fault(api.ErrForm, 2))
	checkDecode(t, []byte{3, 1, 2, 0x80, 0, 0x80}, fault(api.ErrForm, 3))
	checkDecode(t, []byte{3, 1, 2, 3, 0xFF, 0xFF, 0xFF, 0xFF, 8, 18}, fault(api.ErrMany, 4))
	checkDecode(t, []byte{5, 1, 2, 3, 0, 0, 17}, fault(api.ErrMany, 6))
	checkDecode(t, []byte{5, 1, 2, 3, 0, 0, 16}, fault(api.ErrEnd, 7))
	checkDecode(t, []byte{5, 1, 2, 3, 1, 1, 1, 'a', 0, 0, 0, 0, 0, 0, 0, 9, 65}, fault(api.ErrMany, 16))
	checkDecode(t, []byte{5, 1, 2, 3, 1, 1, 1, 'a', 0, 0, 0, 0, 0, 0, 0, 9, 64}, fault(api.ErrEnd, 16))
}

// P10.4 to P10.6

func TestWhatIsEncodedIsDecoded(t *testing.T) {
	for _, m := range append(good(), mixed(5000)...) {
		b, why := msg.Encode(m)
		if why != api.OK || !bytes.Equal(b, join(piecesOf(m))) {
			t.Fatalf("%v: % X, %v", m, b, why)
		}
		got, f := msg.Decode(b)
		if !msg.Same(got, m) || f != (api.Fault{}) || !msg.May(got) {
			t.Fatalf("% X: %v, %v, not %v", b, got, f, m)
		}
	}
}

// checkBytes asks of any bytes: for a fault that is listed at a place that is there, and nothing with it; else for a message that may be, and that has just these bytes.
func checkBytes(t *testing.T, b []byte) bool {
	t.Helper()
	m, f := msg.Decode(b)
	if f.Why != api.OK {
		listed := slices.Contains([]api.Errno{api.ErrForm, api.ErrEnd, api.ErrMany}, f.Why)
		if !listed || f.At < 0 || f.At > len(b) || !msg.Same(m, msg.Msg{}) {
			t.Fatalf("% X: %v, %v", b, m, f)
		}
		return false
	}
	again, why := msg.Encode(m)
	if f.At != 0 || !msg.May(m) || why != api.OK || !bytes.Equal(again, b) {
		t.Fatalf("% X: %v, %v, then % X, %v", b, m, f, again, why)
	}
	return true
}

func TestWhatIsDecodedIsEncodedAsTheSame(t *testing.T) {
	x := chance(88172645463325252)
	decoded := 0
	for _, m := range mixed(3000) {
		b := join(piecesOf(m))
		for range 10 {
			turned := slices.Clone(b)
			for range 1 + x.below(2) {
				turned[x.below(len(b))] = byte([]int{0, 1, 2, 3, 127, 128, 255, x.below(256)}[x.below(8)])
			}
			if checkBytes(t, turned) {
				decoded++
			}
		}
	}
	if decoded < 1000 {
		t.Error("just", decoded, "were decoded")
	}
}

func TestAnyBytes(t *testing.T) {
	for a := range 256 {
		checkBytes(t, []byte{byte(a)})
		for b := range 256 {
			checkBytes(t, []byte{byte(a), byte(b)})
			checkBytes(t, []byte{byte(a), 1, 1, byte(b)})
			checkBytes(t, []byte{byte(a), 1, 1, 1, byte(b)})
			checkBytes(t, []byte{byte(a), 1, 1, 1, 1, byte(b)})
		}
	}
	x := chance(0xD1B54A32D192ED03)
	for range 30000 {
		b := make([]byte, 1+x.below(60))
		for n := range b {
			b[n] = byte(x.below([]int{4, 256}[x.below(2)]))
		}
		b[0] = byte(x.below(13))
		checkBytes(t, b)
	}
	checkBytes(t, make([]byte, 1<<20))
}

// The greatest message of each kind: all its fields have as many bytes as they may have.
func TestSizes(t *testing.T) {
	tx, reg, k := api.Tx{Node: 7, Boot: most, Num: most}, api.Reg{Boot: most, N: most}, api.Key{1, 2, 3, 4, 5, 6, 7, 8}
	item := goodItems()[3]
	var list []api.Write
	for n := range mostList {
		list = append(list, api.Write{Key: api.Key{byte(n + 1), 255, 255, 255, 255, 255, 255, 255}, Item: item})
	}
	whole := msg.Msg{Tx: tx, Time: most, Reg: reg, Key: k, Mode: 2, No: most, Why: 17, Yes: 2, Item: item, Writes: list}
	sizes := map[string]int{"Tx": 11, "Time": 5, "Reg": 10, "Key": 8, "Mode": 1, "No": 5, "Why": 1, "Yes": 1, "Item": 85, "Writes": 1 + mostList*93}
	for _, kind := range kinds() {
		m := only(kind, whole)
		want := 1
		for _, name := range order()[kind] {
			want += sizes[name]
		}
		b, why := msg.Encode(m)
		if why != api.OK || len(b) != want || len(b) > mostFrame {
			t.Errorf("kind %d: %d bytes, not %d, %v", kind, len(b), want, why)
		}
	}
	for _, m := range append(good(), mixed(1000)...) {
		if b, _ := msg.Encode(m); len(b) > mostFrame {
			t.Errorf("%v: %d bytes", m, len(b))
		}
	}
}

// R4

func TestWhatIsHandedInStays(t *testing.T) {
	m := plain(msg.Prepare)
	m.Writes = many(mostList)[:3]
	want := msg.Msg{Kind: m.Kind, Tx: m.Tx, Reg: m.Reg, Writes: many(3)}
	b, _ := msg.Encode(m)
	msg.May(m)
	msg.WritesMay(m.Writes)
	msg.PutWrites(new(code.Writer), m.Writes)
	if !msg.Same(m, want) || !slices.Equal(m.Writes[:mostList], many(mostList)) {
		t.Error("the writes were turned")
	}
	falling := writes(goodItems()[0], 3, 2, 1)
	msg.WritesMay(falling)
	if !slices.Equal(falling, writes(goodItems()[0], 3, 2, 1)) {
		t.Error("what does not rise was turned")
	}
	before := slices.Clone(b)
	if _, f := msg.Decode(b); f != (api.Fault{}) || !bytes.Equal(b, before) {
		t.Error("the bytes were turned", f)
	}
}

func TestWhatIsAnsweredIsTheCallers(t *testing.T) {
	m := plain(msg.Prepare)
	m.Writes = many(3)
	b, _ := msg.Encode(m)
	one, _ := msg.Decode(b)
	two, _ := msg.Decode(b)
	clear(b)
	if !msg.Same(one, m) || !msg.Same(two, m) {
		t.Error("the bytes turned what was answered")
	}
	clear(one.Writes)
	if !msg.Same(two, m) || !slices.Equal(m.Writes, many(3)) {
		t.Error("one answer turned another")
	}
	if again, why := msg.Encode(m); why != api.OK || !bytes.Equal(again, join(piecesOf(m))) {
		t.Errorf("% X, %v", again, why)
	}
}
