package rec_test

import (
	"bytes"
	"slices"
	"testing"

	"parrel/api"
	"parrel/bits"
	"parrel/rec"
)

// P11.1

func TestExample(t *testing.T) {
	r := rec.Rec{Kind: rec.Ended, Tx: api.Tx{Node: 1, Boot: 2, Num: 3}}
	b, why := rec.Encode(r)
	if why != api.OK || !bytes.Equal(b, []byte{6, 1, 2, 3}) {
		t.Fatalf("% X, %v", b, why)
	}
	if got, f := rec.Decode(b); !rec.Same(got, r) || f != (api.Fault{}) {
		t.Error(got, f)
	}
}

func TestKinds(t *testing.T) {
	names := []uint8{rec.Boot, rec.Prepared, rec.Done, rec.Undone, rec.Decided, rec.Ended, rec.Fresh}
	if !slices.Equal(names, kinds()) {
		t.Error(names)
	}
}

// Each field of each kind, at each value: where it counts it may be or not, and where it does not it is zero.
func TestMay(t *testing.T) {
	all := edits()
	for _, kind := range kinds() {
		if !rec.May(plain(kind)) {
			t.Fatalf("%v may be", plain(kind))
		}
		for _, name := range fieldNames() {
			for _, e := range all[name] {
				r := plain(kind)
				e.set(&r)
				want := e.may
				if slices.Contains(order()[kind], name) {
					fit(&r)
				} else {
					want = rec.Same(r, plain(kind))
				}
				if got := rec.May(r); got != want {
					t.Errorf("kind %d, %s: %v: %v", kind, name, r, got)
				}
				checkEncode(t, r, want)
			}
		}
	}
}

// checkEncode asks for the bytes of a record that may be, and for ErrArg of one that may not.
func checkEncode(t *testing.T, r rec.Rec, may bool) {
	t.Helper()
	b, why := rec.Encode(r)
	if may && (why != api.OK || !bytes.Equal(b, join(piecesOf(r)))) {
		t.Errorf("%v: % X, %v, not % X", r, b, why, join(piecesOf(r)))
	}
	if !may && (why != api.ErrArg || len(b) != 0) {
		t.Errorf("%v: % X, %v", r, b, why)
	}
}

// checkMay asks both May and Encode.
func checkMay(t *testing.T, r rec.Rec, want bool) {
	t.Helper()
	if got := rec.May(r); got != want {
		t.Errorf("%v: %v", r, got)
	}
	checkEncode(t, r, want)
}

// A Decided has a set for each write, no fewer and no more, and no set has a node that is none.
func TestMissing(t *testing.T) {
	for count := range mostList + 2 {
		for size := range mostList + 3 {
			r := plain(rec.Decided)
			r.Writes, r.Missing = many(count), make([]uint64, size)
			checkMay(t, r, size == count && count >= 1 && count <= mostList)
		}
	}
	for at := range mostList {
		for _, set := range sets() {
			r := plain(rec.Decided)
			r.Writes, r.Missing = many(mostList), make([]uint64, mostList)
			r.Missing[at] = set
			checkMay(t, r, set <= mostNodes)
		}
	}
	for n := range 300 {
		r := plain(rec.Decided)
		r.Members, r.Missing = uint64(n), []uint64{uint64(n), 0}
		checkMay(t, r, n <= mostNodes)
	}
}

// Where Missing does not count it is empty, whatever its sets are.
func TestMissingWhereItDoesNotCount(t *testing.T) {
	for _, kind := range kinds() {
		if kind == rec.Decided {
			continue
		}
		for _, missing := range [][]uint64{{0}, {0, 0}, {1, 2}, {256}} {
			r := plain(kind)
			r.Missing = missing
			checkMay(t, r, false)
		}
		r := plain(kind)
		r.Missing = []uint64{}
		checkMay(t, r, true)
	}
}

// A list that is nil and one that is empty are the same: neither is a write.
func TestRecordsWithoutWrites(t *testing.T) {
	for _, kind := range []uint8{rec.Prepared, rec.Decided} {
		for _, l := range [][]api.Write{nil, {}} {
			for _, missing := range [][]uint64{nil, {}} {
				r := plain(kind)
				r.Writes, r.Missing = l, missing
				checkMay(t, r, false)
			}
		}
	}
	for _, kind := range []uint8{rec.Boot, rec.Done, rec.Undone, rec.Ended, rec.Fresh} {
		r := plain(kind)
		r.Writes = []api.Write{}
		checkMay(t, r, true)
	}
}

func TestKindsThatAreNone(t *testing.T) {
	for n := range 256 {
		kind := uint8(n)
		if kind >= 1 && kind <= 7 {
			continue
		}
		for _, from := range kinds() {
			r := plain(from)
			r.Kind = kind
			checkMay(t, r, false)
		}
		checkMay(t, rec.Rec{Kind: kind}, false)
	}
}

// Same tells apart any two values of a field, of records that may be and that may not.
func TestSame(t *testing.T) {
	all := edits()
	for _, kind := range []uint8{0, rec.Boot, rec.Decided, rec.Ended, 8, 255} {
		for _, name := range fieldNames() {
			for i, one := range all[name] {
				for j, two := range all[name] {
					a, b := rec.Rec{Kind: kind, N: 4, Tx: api.Tx{Node: 9}}, rec.Rec{Kind: kind, N: 4, Tx: api.Tx{Node: 9}}
					one.set(&a)
					two.set(&b)
					if rec.Same(a, b) != (i == j) || rec.Same(b, a) != (i == j) {
						t.Fatalf("%v and %v: %v, %v", a, b, rec.Same(a, b), rec.Same(b, a))
					}
				}
			}
		}
	}
	for a := range 256 {
		for b := range 256 {
			one, two := plain(rec.Ended), plain(rec.Ended)
			one.Kind, two.Kind = uint8(a), uint8(b)
			if rec.Same(one, two) != (a == b) {
				t.Fatal("kinds", a, b)
			}
		}
	}
}

func TestSameOfLists(t *testing.T) {
	for at := range 3 {
		for what, turn := range map[string]func(r *rec.Rec){
			"key":     func(r *rec.Rec) { r.Writes[at].Key[7]++ },
			"version": func(r *rec.Rec) { r.Writes[at].Item.Version++ },
			"value":   func(r *rec.Rec) { r.Writes[at].Item.Value += "x" },
			"epoch":   func(r *rec.Rec) { r.Writes[at].Item.Conf.Epoch++ },
			"votes":   func(r *rec.Rec) { r.Writes[at].Item.Conf.Votes[7]++ },
			"missing": func(r *rec.Rec) { r.Missing[at] ^= 1 << 63 },
			"fewer":   func(r *rec.Rec) { r.Writes = r.Writes[:at] },
			"lesser":  func(r *rec.Rec) { r.Missing = r.Missing[:at] },
			"more":    func(r *rec.Rec) { r.Missing = append(r.Missing, 0) },
		} {
			base := rec.Rec{Kind: rec.Decided, Writes: many(3), Missing: []uint64{0, 0, 0}}
			other := rec.Rec{Kind: rec.Decided, Writes: many(3), Missing: []uint64{0, 0, 0}}
			if !rec.Same(base, other) {
				t.Fatal("the same lists")
			}
			turn(&other)
			if rec.Same(base, other) || rec.Same(other, base) {
				t.Error(what, at)
			}
		}
	}
	if !rec.Same(rec.Rec{}, rec.Rec{Writes: []api.Write{}, Missing: []uint64{}}) {
		t.Error("a list that is nil and one that is empty are the same")
	}
}

// Records whose bytes were told by hand, of each kind.
func TestBytes(t *testing.T) {
	tx, reg, k := api.Tx{Node: 7, Boot: 300, Num: 1}, api.Reg{Boot: 2, N: 128}, api.Key{'a', 'b'}
	item := api.Item{Version: 129, Value: "xyz", Conf: conf(4, 2, 3, 1, 0, 2, 1)}
	two := []api.Write{{Key: k, Item: item}, {Key: api.Key{'c'}, Item: item}}
	name := []byte{7, 0xAC, 2, 1}
	asKey := []byte{'a', 'b', 0, 0, 0, 0, 0, 0}
	asItem := []byte{0x81, 1, 3, 'x', 'y', 'z', 4, 2, 3, 1, 0, 2, 1, 0, 0, 0, 0}
	asTwo := slices.Concat([]byte{2}, asKey, asItem, []byte{'c', 0, 0, 0, 0, 0, 0, 0}, asItem)
	for _, c := range []struct {
		r    rec.Rec
		want []byte
	}{
		{rec.Rec{Kind: rec.Boot, N: 1}, []byte{1, 1}},
		{rec.Rec{Kind: rec.Boot, N: 300}, []byte{1, 0xAC, 2}},
		{rec.Rec{Kind: rec.Boot, N: most}, []byte{1, 0xFF, 0xFF, 0xFF, 0xFF, 7}},
		{rec.Rec{Kind: rec.Prepared, Tx: tx, Reg: reg, Writes: two[:1]}, slices.Concat([]byte{2}, name, []byte{2, 0x80, 1, 1}, asKey, asItem)},
		{rec.Rec{Kind: rec.Prepared, Tx: tx, Reg: reg, Writes: two}, slices.Concat([]byte{2}, name, []byte{2, 0x80, 1}, asTwo)},
		{rec.Rec{Kind: rec.Done, Tx: tx}, slices.Concat([]byte{3}, name)},
		{rec.Rec{Kind: rec.Undone, Tx: tx}, slices.Concat([]byte{4}, name)},
		{rec.Rec{Kind: rec.Decided, Tx: tx, Members: 255, Writes: two, Missing: []uint64{5, 128}}, slices.Concat([]byte{5}, name, []byte{0xFF, 1}, asTwo, []byte{5, 0x80, 1})},
		{rec.Rec{Kind: rec.Decided, Tx: tx, Writes: two, Missing: []uint64{0, 0}}, slices.Concat([]byte{5}, name, []byte{0}, asTwo, []byte{0, 0})},
		{rec.Rec{Kind: rec.Ended, Tx: tx}, slices.Concat([]byte{6}, name)},
		{rec.Rec{Kind: rec.Fresh, Key: k, Item: item}, slices.Concat([]byte{7}, asKey, asItem)},
	} {
		b, why := rec.Encode(c.r)
		if why != api.OK || !bytes.Equal(b, c.want) {
			t.Errorf("%v: % X, %v, not % X", c.r, b, why, c.want)
		}
		if r, f := rec.Decode(c.want); !rec.Same(r, c.r) || f != (api.Fault{}) {
			t.Errorf("% X: %v, %v, not %v", c.want, r, f, c.r)
		}
	}
}

// P11.2

// checkDecode asks for a fault, and with it for nothing.
func checkDecode(t *testing.T, b []byte, want api.Fault) {
	t.Helper()
	if r, f := rec.Decode(b); f != want || !rec.Same(r, rec.Rec{}) {
		t.Errorf("% X: %v, %v, not %v", b, r, f, want)
	}
}

func TestDecodeOfKindsThatAreNone(t *testing.T) {
	checkDecode(t, nil, fault(api.ErrEnd, 0))
	checkDecode(t, []byte{}, fault(api.ErrEnd, 0))
	for n := range 256 {
		if n >= 1 && n <= 7 {
			continue
		}
		checkDecode(t, []byte{byte(n)}, fault(api.ErrForm, 0))
		checkDecode(t, []byte{byte(n), 1, 2, 3}, fault(api.ErrForm, 0))
	}
}

// Each field of each kind, at each value that it may not have: a number above its most is told where it stands, all else of the whole.
func TestDecodeOfWhatMayNotBe(t *testing.T) {
	all := edits()
	for _, kind := range kinds() {
		for _, name := range order()[kind] {
			for _, e := range all[name] {
				if e.may {
					continue
				}
				r := plain(kind)
				e.set(&r)
				fit(&r)
				want, is := tooHigh(piecesOf(r))
				if !is {
					want = fault(api.ErrForm, 0)
				}
				checkDecode(t, join(piecesOf(r)), want)
			}
		}
	}
}

// Each set of a Decided in turn, with a node too many.
func TestDecodeOfMissing(t *testing.T) {
	for at := range mostList {
		for _, set := range sets() {
			r := plain(rec.Decided)
			r.Writes, r.Missing = many(mostList), slices.Repeat([]uint64{200}, mostList)
			r.Missing[at] = set
			if want, is := tooHigh(piecesOf(r)); is {
				checkDecode(t, join(piecesOf(r)), want)
			} else if got, f := rec.Decode(join(piecesOf(r))); !rec.Same(got, r) || f != (api.Fault{}) {
				t.Errorf("%v, %v, not %v", got, f, r)
			}
		}
	}
}

// How many sets there are is told by the writes alone.
func TestDecodeOfMoreAndFewerSets(t *testing.T) {
	for count := 1; count <= mostList; count++ {
		r := plain(rec.Decided)
		r.Writes = many(count)
		for size := range mostList + 2 {
			r.Missing = make([]uint64, size)
			b := join(piecesOf(r))
			switch {
			case size < count:
				checkDecode(t, b, fault(api.ErrEnd, len(b)))
			case size > count:
				checkDecode(t, b, fault(api.ErrForm, len(b)-size+count))
			}
		}
	}
}

// Bytes that end are a fault of the field that they end in.
func TestDecodeOfWhatIsCut(t *testing.T) {
	for _, r := range good() {
		b := join(piecesOf(r))
		begin := 0
		for _, p := range piecesOf(r) {
			for size := range p.bytes {
				checkDecode(t, b[:begin+size], fault(api.ErrEnd, begin))
			}
			begin += len(p.bytes)
		}
	}
}

func TestDecodeOfBytesBehind(t *testing.T) {
	for _, r := range good() {
		b := join(piecesOf(r))
		for _, more := range [][]byte{{0}, {255}, {1, 2, 3}, b} {
			checkDecode(t, slices.Concat(b, more), fault(api.ErrForm, len(b)))
		}
	}
	// They are named ahead of a record that may not be, and a field's fault ahead of them.
	checkDecode(t, []byte{1, 0}, fault(api.ErrForm, 0))
	checkDecode(t, []byte{1, 0, 5}, fault(api.ErrForm, 2))
	checkDecode(t, []byte{1, 0x80, 0, 5}, fault(api.ErrForm, 1))
	checkDecode(t, []byte{6, 9, 0x80, 0, 3, 5}, fault(api.ErrForm, 2))
	checkDecode(t, []byte{2, 1, 2, 3, 1, 1, 0}, fault(api.ErrForm, 0))
	checkDecode(t, []byte{2, 1, 2, 3, 1, 1, 0, 5}, fault(api.ErrForm, 7))
	checkDecode(t, []byte{5, 1, 2, 3, 1, 0}, fault(api.ErrForm, 0))
	checkDecode(t, []byte{5, 1, 2, 3, 1, 0, 5}, fault(api.ErrForm, 6))
}

// Each number in turn, above its most, and in a form that it has not: with a text's bytes, or a list's, behind it.
func TestDecodeOfNumbers(t *testing.T) {
	for _, r := range good() {
		pieces := piecesOf(r)
		begin := 0
		for n, p := range pieces {
			if p.most > 0 {
				size := len(bits.Short(nil, p.number))
				ahead, behind := join(pieces[:n]), slices.Concat(p.bytes[size:], join(pieces[n+1:]))
				long := slices.Clone(p.bytes[:size])
				long[size-1] |= 0x80
				checkDecode(t, slices.Concat(ahead, long, []byte{0}, behind), fault(api.ErrForm, begin))
				for _, high := range []uint64{p.most + 1, 1 << 32, 1<<32 + p.number, 1<<64 - 1} {
					checkDecode(t, slices.Concat(ahead, bits.Short(nil, high), behind), fault(api.ErrMany, begin))
				}
			}
			begin += len(p.bytes)
		}
	}
}

// Of two fields that have a fault the first one is told of.
func TestTheFirstFault(t *testing.T) {
	checkDecode(t, []byte{5, 1, 0x80, 0, 3, 0x80, 2}, fault(api.ErrForm, 2))
	checkDecode(t, []byte{5, 1, 2, 0x80, 0, 0x80, 2}, fault(api.ErrForm, 3))
	checkDecode(t, []byte{5, 1, 2, 3, 0x80, 2, 17}, fault(api.ErrMany, 4))
	checkDecode(t, []byte{5, 1, 2, 3, 0xFF, 1, 17}, fault(api.ErrMany, 6))
	checkDecode(t, []byte{5, 1, 2, 3, 0xFF, 1, 16}, fault(api.ErrEnd, 7))
	checkDecode(t, []byte{2, 1, 2, 3, 1, 1, 1, 'a', 0, 0, 0, 0, 0, 0, 0, 9, 65}, fault(api.ErrMany, 16))
	checkDecode(t, []byte{7, 'a', 0, 0, 0, 0, 0, 0, 0, 9, 64}, fault(api.ErrEnd, 10))
}

// P11.3 to P11.5

func TestWhatIsEncodedIsDecoded(t *testing.T) {
	for _, r := range append(good(), mixed(5000)...) {
		b, why := rec.Encode(r)
		if why != api.OK || !bytes.Equal(b, join(piecesOf(r))) {
			t.Fatalf("%v: % X, %v", r, b, why)
		}
		got, f := rec.Decode(b)
		if !rec.Same(got, r) || f != (api.Fault{}) || !rec.May(got) {
			t.Fatalf("% X: %v, %v, not %v", b, got, f, r)
		}
	}
}

// checkBytes asks of any bytes: for a fault that is listed at a place that is there, and nothing with it; else for a record that may be, and that has just these bytes.
func checkBytes(t *testing.T, b []byte) bool {
	t.Helper()
	r, f := rec.Decode(b)
	if f.Why != api.OK {
		listed := slices.Contains([]api.Errno{api.ErrForm, api.ErrEnd, api.ErrMany}, f.Why)
		if !listed || f.At < 0 || f.At > len(b) || !rec.Same(r, rec.Rec{}) {
			t.Fatalf("% X: %v, %v", b, r, f)
		}
		return false
	}
	again, why := rec.Encode(r)
	if f.At != 0 || !rec.May(r) || why != api.OK || !bytes.Equal(again, b) {
		t.Fatalf("% X: %v, %v, then % X, %v", b, r, f, again, why)
	}
	return true
}

func TestWhatIsDecodedIsEncodedAsTheSame(t *testing.T) {
	x := chance(88172645463325252)
	decoded := 0
	for _, r := range mixed(2000) {
		b := join(piecesOf(r))
		for range 10 {
			turned := slices.Clone(b)
			for range 1 + x.below(2) {
				turned[x.below(len(b))] = byte([]int{0, 1, 2, 3, 127, 128, 255, x.below(256)}[x.below(8)])
			}
			if checkBytes(t, turned) {
				decoded++
			}
		}
	}
	if decoded < 1000 {
		t.Error("just", decoded, "were decoded")
	}
}

func TestAnyBytes(t *testing.T) {
	for a := range 256 {
		checkBytes(t, []byte{byte(a)})
		for b := range 256 {
			checkBytes(t, []byte{byte(a), byte(b)})
			checkBytes(t, []byte{byte(a), 1, byte(b)})
			checkBytes(t, []byte{byte(a), 1, 1, byte(b)})
			checkBytes(t, []byte{byte(a), 1, 1, 1, byte(b)})
			checkBytes(t, []byte{byte(a), 1, 1, 1, 1, byte(b)})
		}
	}
	x := chance(0xD1B54A32D192ED03)
	for range 30000 {
		b := make([]byte, 1+x.below(60))
		for n := range b {
			b[n] = byte(x.below([]int{4, 256}[x.below(2)]))
		}
		b[0] = byte(x.below(9))
		checkBytes(t, b)
	}
	checkBytes(t, make([]byte, 1<<20))
}

// The greatest record of each kind: all its fields have as many bytes as they may have.
func TestSizes(t *testing.T) {
	item := goodItems()[3]
	var list []api.Write
	for n := range mostList {
		list = append(list, api.Write{Key: api.Key{byte(n + 1), 255, 255, 255, 255, 255, 255, 255}, Item: item})
	}
	whole := rec.Rec{N: most, Tx: api.Tx{Node: 7, Boot: most, Num: most}, Reg: api.Reg{Boot: most, N: most}, Members: mostNodes,
		Writes: list, Missing: slices.Repeat([]uint64{mostNodes}, mostList), Key: api.Key{1, 2, 3, 4, 5, 6, 7, 8}, Item: item}
	sizes := map[string]int{"N": 5, "Tx": 11, "Reg": 10, "Members": 2, "Writes": 1 + mostList*93, "Missing": mostList * 2, "Key": 8, "Item": 85}
	for _, kind := range kinds() {
		want := 1
		for _, name := range order()[kind] {
			want += sizes[name]
		}
		b, why := rec.Encode(only(kind, whole))
		if why != api.OK || len(b) != want || len(b) > mostFrame {
			t.Errorf("kind %d: %d bytes, not %d, %v", kind, len(b), want, why)
		}
	}
	for _, r := range append(good(), mixed(1000)...) {
		if b, _ := rec.Encode(r); len(b) > mostFrame {
			t.Errorf("%v: %d bytes", r, len(b))
		}
	}
}

// R4

func TestWhatIsHandedInStays(t *testing.T) {
	r := plain(rec.Decided)
	room := []uint64{1, 2, 3, 4, 5}
	r.Writes, r.Missing = many(mostList)[:3], room[:3]
	want := rec.Rec{Kind: r.Kind, Tx: r.Tx, Members: r.Members, Writes: many(3), Missing: []uint64{1, 2, 3}}
	b, _ := rec.Encode(r)
	rec.May(r)
	rec.Same(r, want)
	if !rec.Same(r, want) || !slices.Equal(r.Writes[:mostList], many(mostList)) || !slices.Equal(room, []uint64{1, 2, 3, 4, 5}) {
		t.Error("the lists were turned")
	}
	before := slices.Clone(b)
	if _, f := rec.Decode(b); f != (api.Fault{}) || !bytes.Equal(b, before) {
		t.Error("the bytes were turned", f)
	}
}

func TestWhatIsAnsweredIsTheCallers(t *testing.T) {
	r := plain(rec.Decided)
	r.Writes, r.Missing = many(3), []uint64{1, 2, 3}
	want := rec.Rec{Kind: r.Kind, Tx: r.Tx, Members: r.Members, Writes: many(3), Missing: []uint64{1, 2, 3}}
	b, _ := rec.Encode(r)
	one, _ := rec.Decode(b)
	two, _ := rec.Decode(b)
	clear(b)
	if !rec.Same(one, want) || !rec.Same(two, want) {
		t.Error("the bytes turned what was answered")
	}
	clear(one.Writes)
	clear(one.Missing)
	if !rec.Same(two, want) || !rec.Same(r, want) {
		t.Error("one answer turned another")
	}
	if again, why := rec.Encode(r); why != api.OK || !bytes.Equal(again, join(piecesOf(want))) {
		t.Errorf("% X, %v", again, why)
	}
}
