package code_test

import (
	"bytes"
	"math"
	"slices"
	"strings"
	"testing"

	"parrel/api"
	"parrel/bits"
	"parrel/code"
)

// numbers are those at the edges of a short number's bytes, and of the types that hold them.
func numbers() []uint64 {
	out := []uint64{0, 1, 2, 300, api.MaxCount, api.MaxCount + 1, math.MaxUint32, math.MaxInt64, math.MaxUint64}
	for i := 7; i < 64; i += 7 {
		out = append(out, 1<<i-1, 1<<i, 1<<i+1)
	}
	return out
}

// texts are some of sizes at which their number takes another byte, and some with bytes that no rune has.
func texts() []string {
	return []string{"", "a", "ab", "\x00", "\xFF\xC0\x80", "äß", strings.Repeat("x", 63), strings.Repeat("y", 64),
		strings.Repeat("z", 127), strings.Repeat("\x80", 128), strings.Repeat("w", 129), strings.Repeat("v", 16384)}
}

func keys() []api.Key {
	return []api.Key{{}, {'a', 'b'}, {1, 2, 3, 4, 5, 6, 7, 8}, {0, 0, 0, 0, 0, 0, 0, 1}, {255, 0, 255, 0, 255, 0, 255, 255}}
}

// kinds reads a field of each kind, and tells whether it was zero.
func kinds() map[string]func(*code.Reader) bool {
	return map[string]func(*code.Reader) bool{
		"Num":  func(r *code.Reader) bool { return r.Num(math.MaxUint64) == 0 },
		"Byte": func(r *code.Reader) bool { return r.Byte() == 0 },
		"Bool": func(r *code.Reader) bool { return !r.Bool() },
		"Text": func(r *code.Reader) bool { return r.Text(math.MaxInt) == "" },
		"Key":  func(r *code.Reader) bool { return r.Key() == api.Key{} },
	}
}

func fault(why api.Errno, at int) api.Fault { return api.Fault{Why: why, At: at} }

func some(size int) []byte {
	out := make([]byte, size)
	for i := range out {
		out[i] = byte(i*37 + 5)
	}
	return out
}

// P3.1

func TestExample(t *testing.T) {
	var w code.Writer
	w.Num(300)
	w.Bool(true)
	w.Text("ab")
	if got := w.Bytes(); !bytes.Equal(got, []byte{0xAC, 0x02, 0x01, 0x02, 0x61, 0x62}) {
		t.Fatalf("% X", got)
	}
	r := code.New(w.Bytes())
	if n, is, s := r.Num(300), r.Bool(), r.Text(2); n != 300 || !is || s != "ab" {
		t.Error(n, is, s)
	}
	if r.End() != (api.Fault{}) || r.Left() != 0 {
		t.Error(r.End(), r.Left())
	}
}

func TestEachFieldIsPutBehind(t *testing.T) {
	var w code.Writer
	var want []byte
	check := func(what string, b ...byte) {
		t.Helper()
		want = append(want, b...)
		if got := w.Bytes(); !bytes.Equal(got, want) {
			t.Fatalf("%s: % X, not % X", what, got, want)
		}
	}
	check("nothing")
	for _, n := range numbers() {
		w.Num(n)
		check("Num", bits.Short(nil, n)...)
	}
	for c := range 256 {
		w.Byte(byte(c))
		check("Byte", byte(c))
	}
	w.Bool(false)
	check("Bool(false)", 0)
	w.Bool(true)
	check("Bool(true)", 1)
	for _, s := range texts() {
		w.Text(s)
		check("Text", append(bits.Short(nil, uint64(len(s))), s...)...)
	}
	for _, k := range keys() {
		w.Key(k)
		check("Key", k[:]...)
	}
}

func TestBytesAreACopy(t *testing.T) {
	var w code.Writer
	w.Text("abc")
	first := w.Bytes()
	clear(first)
	_ = append(first, 9, 9, 9)
	second := w.Bytes()
	if !bytes.Equal(second, []byte{3, 'a', 'b', 'c'}) {
		t.Errorf("what was answered turned the writer: % X", second)
	}
	w.Byte(7)
	if third := w.Bytes(); !bytes.Equal(second, []byte{3, 'a', 'b', 'c'}) || !bytes.Equal(third, []byte{3, 'a', 'b', 'c', 7}) {
		t.Errorf("what is written turned what was answered: % X, % X", second, third)
	}
}

func TestNilWriter(t *testing.T) {
	var w *code.Writer
	w.Num(1)
	w.Byte(2)
	w.Bool(true)
	w.Text("abc")
	w.Key(api.Key{1})
	if got := w.Bytes(); len(got) != 0 {
		t.Errorf("% X", got)
	}
}

// P3.2

func TestReaderHasACopy(t *testing.T) {
	b := []byte{1, 2, 3}
	r := code.New(b[:2])
	b[0], b[1] = 9, 9
	if x, y := r.Byte(), r.Byte(); x != 1 || y != 2 || r.Left() != 0 {
		t.Error(x, y, r.Left())
	}
	if !slices.Equal(b, []byte{9, 9, 3}) {
		t.Error("what was handed in has changed", b)
	}
}

func TestNum(t *testing.T) {
	for _, n := range numbers() {
		for _, most := range []uint64{n, n + 1, math.MaxUint64} {
			if most < n {
				continue
			}
			r := code.New(append(bits.Short(nil, n), 5))
			if got := r.Num(most); got != n || r.Fault() != (api.Fault{}) || r.Left() != 1 {
				t.Errorf("Num(%d) of %d: %d, %v, %d left", most, n, got, r.Fault(), r.Left())
			}
		}
		if n == 0 {
			continue
		}
		for _, most := range []uint64{0, n / 2, n - 1} {
			r := code.New(append([]byte{4}, bits.Short(nil, n)...))
			r.Byte()
			if got := r.Num(most); got != 0 || r.Fault() != fault(api.ErrMany, 1) || r.Left() != 0 {
				t.Errorf("Num(%d) of %d: %d, %v, %d left", most, n, got, r.Fault(), r.Left())
			}
		}
	}
}

func TestNumHasTheErrorsOfLong(t *testing.T) {
	full := bytes.Repeat([]byte{0xFF}, 9)
	for _, c := range []struct {
		b    []byte
		want api.Errno
	}{
		{nil, api.ErrEnd},
		{[]byte{0x80}, api.ErrEnd},
		{full, api.ErrEnd},
		{[]byte{0x80, 0}, api.ErrForm},
		{[]byte{0xAC, 0x82, 0}, api.ErrForm},
		{append(slices.Clone(full), 2), api.ErrForm},
		{append(slices.Clone(full), 0x80, 1), api.ErrForm},
	} {
		// Of two faults that apply the one of the bytes comes ahead of the one of the number: so most is 0.
		for _, most := range []uint64{0, math.MaxUint64} {
			r := code.New(append([]byte{1, 2, 3}, c.b...))
			r.Byte()
			r.Byte()
			r.Byte()
			if got := r.Num(most); got != 0 || r.Fault() != fault(c.want, 3) || r.Left() != 0 {
				t.Errorf("Num(%d) of % X: %d, %v, not {%d 3}", most, c.b, got, r.Fault(), c.want)
			}
		}
	}
}

func TestByte(t *testing.T) {
	for c := range 256 {
		r := code.New([]byte{byte(c), 1})
		if got := r.Byte(); got != byte(c) || r.Left() != 1 || r.Fault() != (api.Fault{}) {
			t.Errorf("%d: %d, %d left, %v", c, got, r.Left(), r.Fault())
		}
	}
	r := code.New([]byte{7})
	r.Byte()
	if got := r.Byte(); got != 0 || r.Fault() != fault(api.ErrEnd, 1) {
		t.Error(got, r.Fault())
	}
}

func TestBool(t *testing.T) {
	for c := range 256 {
		r := code.New([]byte{9, byte(c), 1})
		r.Byte()
		got := r.Bool()
		if c < 2 && (got != (c == 1) || r.Fault() != (api.Fault{}) || r.Left() != 1) {
			t.Errorf("%d: %v, %v, %d left", c, got, r.Fault(), r.Left())
		}
		if c >= 2 && (got || r.Fault() != fault(api.ErrForm, 1) || r.Left() != 0) {
			t.Errorf("%d: %v, %v, %d left", c, got, r.Fault(), r.Left())
		}
	}
	r := code.New([]byte{1})
	r.Bool()
	if got := r.Bool(); got || r.Fault() != fault(api.ErrEnd, 1) {
		t.Error(got, r.Fault())
	}
}

func TestText(t *testing.T) {
	for _, s := range texts() {
		b := append(bits.Short(nil, uint64(len(s))), s...)
		for _, most := range []int{len(s), len(s) + 1, math.MaxInt} {
			r := code.New(append(slices.Clone(b), 5))
			if got := r.Text(most); got != s || r.Fault() != (api.Fault{}) || r.Left() != 1 {
				t.Errorf("Text(%d) of %d bytes: %q, %v, %d left", most, len(s), got, r.Fault(), r.Left())
			}
		}
		if len(s) == 0 {
			continue
		}
		for _, most := range []int{0, len(s) / 2, len(s) - 1} {
			r := code.New(append([]byte{5}, b...))
			r.Byte()
			if got := r.Text(most); got != "" || r.Fault() != fault(api.ErrMany, 1) || r.Left() != 0 {
				t.Errorf("Text(%d) of %d bytes: %q, %v", most, len(s), got, r.Fault())
			}
		}
		r := code.New(append([]byte{5}, b[:len(b)-1]...))
		r.Byte()
		if got := r.Text(len(s)); got != "" || r.Fault() != fault(api.ErrEnd, 1) || r.Left() != 0 {
			t.Errorf("Text of %d bytes, the last of which is missing: %q, %v", len(s), got, r.Fault())
		}
	}
}

// A most below 0 has no ErrMany.
func TestTextOfAnyNumber(t *testing.T) {
	for _, most := range []int{-1, -2, math.MinInt} {
		for _, s := range texts() {
			r := code.New(append(bits.Short(nil, uint64(len(s))), s...))
			if got := r.Text(most); got != s || r.Fault() != (api.Fault{}) {
				t.Errorf("Text(%d) of %d bytes: %q, %v", most, len(s), got, r.Fault())
			}
		}
		r := code.New(bits.Short(nil, math.MaxUint64))
		if got := r.Text(most); got != "" || r.Fault() != fault(api.ErrEnd, 0) {
			t.Errorf("Text(%d): %q, %v", most, got, r.Fault())
		}
	}
}

func TestFaultsOfATextInTheirOrder(t *testing.T) {
	for _, c := range []struct {
		b    []byte
		most int
		want api.Errno
	}{
		{nil, 5, api.ErrEnd},
		{[]byte{0x81}, 0, api.ErrEnd},
		{[]byte{0x81, 0, 'a'}, 0, api.ErrForm},
		{[]byte{0x81, 0, 'a'}, -1, api.ErrForm},
		{[]byte{6, 'a'}, 5, api.ErrMany}, // and fewer bytes are left
		{[]byte{5, 'a'}, 5, api.ErrEnd},
		{[]byte{1}, 5, api.ErrEnd},
		{bits.Short(nil, math.MaxUint64), math.MaxInt, api.ErrMany},
		{bits.Short(nil, math.MaxInt64+1), math.MaxInt, api.ErrMany},
		{bits.Short(nil, math.MaxInt64), math.MaxInt, api.ErrEnd},
		{bits.Short(nil, math.MaxInt64+1), -1, api.ErrEnd},
	} {
		r := code.New(c.b)
		if got := r.Text(c.most); got != "" || r.Fault() != fault(c.want, 0) || r.Left() != 0 {
			t.Errorf("Text(%d) of % X: %q, %v, not {%d 0}", c.most, c.b, got, r.Fault(), c.want)
		}
	}
}

func TestKey(t *testing.T) {
	for _, k := range keys() {
		r := code.New(append(k[:], 5))
		if got := r.Key(); got != k || r.Fault() != (api.Fault{}) || r.Left() != 1 {
			t.Errorf("%v: %v, %v, %d left", k, got, r.Fault(), r.Left())
		}
	}
	for size := range 8 {
		r := code.New(append([]byte{5}, some(size)...))
		r.Byte()
		if got := r.Key(); got != (api.Key{}) || r.Fault() != fault(api.ErrEnd, 1) || r.Left() != 0 {
			t.Errorf("of %d bytes: %v, %v, %d left", size, got, r.Fault(), r.Left())
		}
	}
}

// P3.3

func TestLeft(t *testing.T) {
	for _, size := range []int{0, 1, 2, 9, 300} {
		r := code.New(some(size))
		for i := range size {
			if got := r.Left(); got != size-i {
				t.Fatalf("%d bytes, %d read: %d left", size, i, got)
			}
			r.Byte()
		}
		if got := r.Left(); got != 0 {
			t.Fatalf("%d bytes, all read: %d left", size, got)
		}
	}
}

func TestEnd(t *testing.T) {
	for size := range 5 {
		for read := range size + 1 {
			r := code.New(make([]byte, size))
			for range read {
				r.Byte()
			}
			want := api.Fault{}
			if read < size {
				want = fault(api.ErrForm, read)
			}
			for range 2 {
				if got := r.End(); got != want {
					t.Errorf("%d bytes, %d read: %v, not %v", size, read, got, want)
				}
			}
			if r.Fault() != want || r.Left() != 0 {
				t.Errorf("%d bytes, %d read: %v behind End, %d left", size, read, r.Fault(), r.Left())
			}
		}
	}
}

func TestEndLeavesAFault(t *testing.T) {
	r := code.New([]byte{1, 2, 3})
	r.Byte()
	r.Bool()
	if r.End() != fault(api.ErrForm, 1) || r.Fault() != fault(api.ErrForm, 1) {
		t.Error(r.End(), r.Fault())
	}
	r = code.New([]byte{1, 3, 3})
	r.Byte()
	r.Text(5)
	if r.End() != fault(api.ErrEnd, 1) || r.Fault() != fault(api.ErrEnd, 1) {
		t.Error(r.End(), r.Fault())
	}
}

// What is read with nothing left is no fault of End's: only a field's own.
func TestEndThatIsNoFaultIsGoneOnFrom(t *testing.T) {
	r := code.New([]byte{1})
	r.Byte()
	if r.End() != (api.Fault{}) {
		t.Fatal(r.End())
	}
	r.Byte()
	if r.End() != fault(api.ErrEnd, 1) {
		t.Error(r.End())
	}
}

func TestNilReader(t *testing.T) {
	for what, isZero := range kinds() {
		var r *code.Reader
		if !isZero(r) || r.Left() != 0 || r.End() != fault(api.ErrEnd, 0) || r.Fault() != fault(api.ErrEnd, 0) {
			t.Error(what, r.Left(), r.End(), r.Fault())
		}
	}
}

func TestReaderOfNothing(t *testing.T) {
	var unmade code.Reader
	for _, r := range []*code.Reader{code.New(nil), code.New([]byte{}), &unmade} {
		if r == nil || r.Left() != 0 || r.Fault() != (api.Fault{}) || r.End() != (api.Fault{}) {
			t.Error(r.Left(), r.Fault(), r.End())
		}
	}
	for what, isZero := range kinds() {
		for _, r := range []*code.Reader{code.New(nil), code.New([]byte{}), new(code.Reader)} {
			if !isZero(r) || r.Fault() != fault(api.ErrEnd, 0) {
				t.Error(what, r.Fault())
			}
		}
	}
}

// P3.4

// one is a field that is written, and read again as what it was.
type one struct {
	write func(*code.Writer)
	read  func(*code.Reader) bool
}

func fields() []one {
	var out []one
	for _, n := range numbers() {
		out = append(out, one{func(w *code.Writer) { w.Num(n) }, func(r *code.Reader) bool { return r.Num(n) == n }})
	}
	for _, s := range texts() {
		out = append(out, one{func(w *code.Writer) { w.Text(s) }, func(r *code.Reader) bool { return r.Text(len(s)) == s }})
	}
	for _, k := range keys() {
		out = append(out, one{func(w *code.Writer) { w.Key(k) }, func(r *code.Reader) bool { return r.Key() == k }})
	}
	for _, c := range []byte{0, 1, 2, 127, 128, 255} {
		out = append(out, one{func(w *code.Writer) { w.Byte(c) }, func(r *code.Reader) bool { return r.Byte() == c }})
	}
	for _, is := range []bool{false, true} {
		out = append(out, one{func(w *code.Writer) { w.Bool(is) }, func(r *code.Reader) bool { return r.Bool() == is }})
	}
	return out
}

func TestWhatIsWrittenIsRead(t *testing.T) {
	all := fields()
	// Steps that have no divisor in common with the number of fields: each order has every field, and other neighbours.
	for step := 1; step < len(all); step++ {
		if gcd(step, len(all)) != 1 {
			continue
		}
		var w code.Writer
		for i := range all {
			all[i*step%len(all)].write(&w)
		}
		r := code.New(w.Bytes())
		for i := range all {
			if n := i * step % len(all); !all[n].read(r) || r.Fault() != (api.Fault{}) {
				t.Fatalf("step %d: field %d: %v", step, n, r.Fault())
			}
		}
		if r.Left() != 0 || r.End() != (api.Fault{}) {
			t.Fatalf("step %d: %d left, %v", step, r.Left(), r.End())
		}
	}
}

func gcd(a, b int) int {
	for b != 0 {
		a, b = b, a%b
	}
	return a
}

// P3.5

func TestWhatIsReadIsWrittenAsTheSameBytes(t *testing.T) {
	again := map[string]func(*code.Reader, *code.Writer){
		"Num":  func(r *code.Reader, w *code.Writer) { w.Num(r.Num(math.MaxUint64)) },
		"Byte": func(r *code.Reader, w *code.Writer) { w.Byte(r.Byte()) },
		"Bool": func(r *code.Reader, w *code.Writer) { w.Bool(r.Bool()) },
		"Text": func(r *code.Reader, w *code.Writer) { w.Text(r.Text(-1)) },
		"Key":  func(r *code.Reader, w *code.Writer) { w.Key(r.Key()) },
	}
	reads := 0
	for n := range 1 << 16 {
		b := append([]byte{byte(n), byte(n >> 8)}, some(n%9)...)
		for what, copyOne := range again {
			r := code.New(b)
			var w code.Writer
			copyOne(r, &w)
			if r.Fault() != (api.Fault{}) {
				continue
			}
			reads++
			if got := w.Bytes(); !bytes.Equal(got, b[:len(b)-r.Left()]) {
				t.Fatalf("%s of % X: % X, %d left", what, b, got, r.Left())
			}
		}
	}
	if reads < 1<<16 {
		t.Error("too few were read without a fault:", reads)
	}
}

// P3.6

func TestBehindAFaultNothingIsRead(t *testing.T) {
	// What follows the fault could be read as any kind.
	rest := append(make([]byte, 20), bytes.Repeat([]byte{1}, 20)...)
	faults := map[string]struct {
		b    []byte
		read func(*code.Reader)
		want api.Errno
	}{
		"Num has no form":     {[]byte{0x80, 0}, func(r *code.Reader) { r.Num(5) }, api.ErrForm},
		"Num is above most":   {[]byte{6}, func(r *code.Reader) { r.Num(5) }, api.ErrMany},
		"Bool is neither":     {[]byte{2}, func(r *code.Reader) { r.Bool() }, api.ErrForm},
		"Text is too long":    {[]byte{6}, func(r *code.Reader) { r.Text(5) }, api.ErrMany},
		"Text has no end":     {[]byte{100}, func(r *code.Reader) { r.Text(100) }, api.ErrEnd},
		"End is not there":    {[]byte{7}, func(r *code.Reader) { r.End() }, api.ErrForm},
		"Text's number, form": {[]byte{0x81, 0}, func(r *code.Reader) { r.Text(5) }, api.ErrForm},
	}
	for name, c := range faults {
		for what, isZero := range kinds() {
			r := code.New(append(append([]byte{1, 1}, c.b...), rest...))
			r.Byte()
			r.Byte()
			c.read(r)
			want := fault(c.want, 2)
			if r.Fault() != want {
				t.Fatalf("%s: %v, not %v", name, r.Fault(), want)
			}
			for range 3 {
				if !isZero(r) || r.Left() != 0 || r.Fault() != want || r.End() != want {
					t.Fatalf("%s, then %s: %d left, %v, %v", name, what, r.Left(), r.Fault(), r.End())
				}
			}
		}
	}
}

// R4: a reader's own state is all that a reading turns.
func TestReadersOfTheSameBytesAreApart(t *testing.T) {
	b := []byte{2, 'a', 'b', 9}
	one, two := code.New(b), code.New(b)
	one.Text(1)
	if got := two.Text(2); got != "ab" || two.Left() != 1 || one.Fault() != fault(api.ErrMany, 0) {
		t.Error(got, two.Left(), one.Fault())
	}
	if !slices.Equal(b, []byte{2, 'a', 'b', 9}) {
		t.Error(b)
	}
}
