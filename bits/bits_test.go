package bits_test

import (
	"bytes"
	"math"
	"slices"
	"testing"

	"parrel/api"
	"parrel/bits"
)

// numbers are the ones at the ends of each size, and some between.
func numbers() []uint64 {
	out := []uint64{0, 1, 2, 5, 300, 0x0102030405060708, 0xF0E1D2C3B4A59687, math.MaxInt32, math.MaxUint64}
	for i := range 64 {
		p := uint64(1) << i
		out = append(out, p-1, p, p+1, ^p)
	}
	// A rule without chance, so that a run is like any other.
	x := uint64(88172645463325252)
	for range 500 {
		x ^= x << 13
		x ^= x >> 7
		x ^= x << 17
		out = append(out, x, x>>(x&63))
	}
	return out
}

// run is some bytes, one n times.
func run(c byte, n int) []byte { return bytes.Repeat([]byte{c}, n) }

// roomy is a list with bytes behind its end that a wrong append would write over.
func roomy(b ...byte) []byte {
	all := append(slices.Clone(b), run(0xEE, 20)...)
	return all[:len(b)]
}

// untouched fails if anything but 0xEE stands behind b's end.
func untouched(t *testing.T, name string, b []byte) {
	t.Helper()
	for _, c := range b[len(b):cap(b)][:20] {
		if c != 0xEE {
			t.Fatalf("%s wrote behind the list that it was handed: % X", name, b[:len(b)+20])
		}
	}
}

// P1.1

func TestPut(t *testing.T) {
	const n = 0x0102030405060708
	for _, c := range []struct {
		b    []byte
		n    uint64
		size int
		want []byte
	}{
		{nil, n, 1, []byte{8}},
		{nil, n, 2, []byte{7, 8}},
		{nil, n, 3, []byte{6, 7, 8}},
		{nil, n, 7, []byte{2, 3, 4, 5, 6, 7, 8}},
		{nil, n, 8, []byte{1, 2, 3, 4, 5, 6, 7, 8}},
		{nil, n, 9, []byte{1, 2, 3, 4, 5, 6, 7, 8}},
		{nil, n, math.MaxInt, []byte{1, 2, 3, 4, 5, 6, 7, 8}},
		{[]byte{9, 9}, n, 2, []byte{9, 9, 7, 8}},
		{[]byte{9}, math.MaxUint64, 12, []byte{9, 255, 255, 255, 255, 255, 255, 255, 255}},
		{[]byte{9, 9}, n, 0, []byte{9, 9}},
		{[]byte{9, 9}, n, -1, []byte{9, 9}},
		{[]byte{9, 9}, n, math.MinInt, []byte{9, 9}},
		{nil, n, 0, nil},
		{[]byte{}, 0, 1, []byte{0}},
	} {
		if got := bits.Put(c.b, c.n, c.size); !bytes.Equal(got, c.want) {
			t.Errorf("Put(% X, %X, %d): % X, not % X", c.b, c.n, c.size, got, c.want)
		}
	}
}

func TestGet(t *testing.T) {
	eight := []byte{1, 2, 3, 4, 5, 6, 7, 8}
	for _, c := range []struct {
		b    []byte
		size int
		want uint64
		err  api.Errno
	}{
		{eight, 1, 1, api.OK},
		{eight, 2, 0x0102, api.OK},
		{eight, 7, 0x01020304050607, api.OK},
		{eight, 8, 0x0102030405060708, api.OK},
		{append([]byte{255}, eight...), 8, 0xFF01020304050607, api.OK},
		{run(255, 9), 8, math.MaxUint64, api.OK},
		{[]byte{0}, 1, 0, api.OK},
		{eight, 0, 0, api.ErrForm},
		{eight, -1, 0, api.ErrForm},
		{run(1, 20), 9, 0, api.ErrForm},
		{run(1, 20), math.MaxInt, 0, api.ErrForm},
		{run(1, 20), math.MinInt, 0, api.ErrForm},
		{eight[:7], 8, 0, api.ErrEnd},
		{eight[:1], 2, 0, api.ErrEnd},
		{nil, 1, 0, api.ErrEnd},
		{[]byte{}, 8, 0, api.ErrEnd},
		// Both errors apply: the one that is named first is answered.
		{nil, 0, 0, api.ErrForm},
		{nil, 9, 0, api.ErrForm},
	} {
		if got, err := bits.Get(c.b, c.size); got != c.want || err != c.err {
			t.Errorf("Get(% X, %d): %X, %v, not %X, %v", c.b, c.size, got, err, c.want, c.err)
		}
	}
}

func TestShort(t *testing.T) {
	for _, c := range []struct {
		b    []byte
		n    uint64
		want []byte
	}{
		{nil, 0, []byte{0}},
		{nil, 1, []byte{1}},
		{nil, 127, []byte{127}},
		{nil, 128, []byte{0x80, 1}},
		{nil, 300, []byte{0xAC, 2}},
		{nil, 1<<14 - 1, []byte{0xFF, 0x7F}},
		{nil, 1 << 14, []byte{0x80, 0x80, 1}},
		{nil, 1<<63 - 1, append(run(0xFF, 8), 0x7F)},
		{nil, 1 << 63, append(run(0x80, 9), 1)},
		{nil, math.MaxUint64, append(run(0xFF, 9), 1)},
		{[]byte{0x80, 7}, 300, []byte{0x80, 7, 0xAC, 2}},
		{[]byte{}, 5, []byte{5}},
	} {
		if got := bits.Short(c.b, c.n); !bytes.Equal(got, c.want) {
			t.Errorf("Short(% X, %d): % X, not % X", c.b, c.n, got, c.want)
		}
	}
}

func TestLong(t *testing.T) {
	for _, c := range []struct {
		b    []byte
		n    uint64
		size int
		err  api.Errno
	}{
		{[]byte{0}, 0, 1, api.OK},
		{[]byte{0, 0, 0}, 0, 1, api.OK},
		{[]byte{127, 0x80}, 127, 1, api.OK},
		{[]byte{0xAC, 2}, 300, 2, api.OK},
		{[]byte{0xAC, 2, 0xFF, 0xFF}, 300, 2, api.OK},
		{[]byte{0x80, 0x80, 1}, 1 << 14, 3, api.OK},
		{append(run(0x80, 8), 1), 1 << 56, 9, api.OK},
		{append(run(0x80, 9), 1), 1 << 63, 10, api.OK},
		{append(run(0xFF, 9), 1, 0), math.MaxUint64, 10, api.OK},

		{nil, 0, 0, api.ErrEnd},
		{[]byte{}, 0, 0, api.ErrEnd},
		{[]byte{0x80}, 0, 0, api.ErrEnd},
		{[]byte{0xAC}, 0, 0, api.ErrEnd},
		{run(0xFF, 9), 0, 0, api.ErrEnd},

		{[]byte{0x80, 0}, 0, 0, api.ErrForm},
		{[]byte{0xAC, 0, 5}, 0, 0, api.ErrForm},
		{[]byte{0xAC, 0x82, 0}, 0, 0, api.ErrForm},
		{append(run(0xFF, 9), 0), 0, 0, api.ErrForm},
		{append(run(0x80, 9), 2), 0, 0, api.ErrForm},
		{append(run(0xFF, 9), 0x7F), 0, 0, api.ErrForm},
		{append(run(0x80, 10), 1), 0, 0, api.ErrForm},
		{append(run(0x80, 10), 0), 0, 0, api.ErrForm},
		{append(run(0x80, 9), 0x81, 1, 1), 0, 0, api.ErrForm},
		{append(run(0xFF, 1000), 1), 0, 0, api.ErrForm},

		// A tenth byte above 1, and no end: the error that is named first is answered.
		{run(0xFF, 10), 0, 0, api.ErrEnd},
		{run(0x80, 11), 0, 0, api.ErrEnd},
		{run(0x80, 1000), 0, 0, api.ErrEnd},
	} {
		if n, size, err := bits.Long(c.b); n != c.n || size != c.size || err != c.err {
			t.Errorf("Long(% X): %d, %d, %v, not %d, %d, %v", c.b, n, size, err, c.n, c.size, c.err)
		}
	}
}

// P1.1 with R4: what is handed in stays as it is, and what is answered is the caller's.
func TestPutAndShortShareNothing(t *testing.T) {
	for _, c := range []struct {
		name string
		call func(b []byte) []byte
	}{
		{"Put of 4", func(b []byte) []byte { return bits.Put(b, 0x01020304, 4) }},
		{"Put of 0", func(b []byte) []byte { return bits.Put(b, 0x01020304, 0) }},
		{"Put below 0", func(b []byte) []byte { return bits.Put(b, 0x01020304, -3) }},
		{"Short", func(b []byte) []byte { return bits.Short(b, math.MaxUint64) }},
	} {
		b := roomy(1, 2, 3)
		out := c.call(b)
		untouched(t, c.name, b)
		for i := range out {
			out[i] = 0x55
		}
		_ = append(out, 0x55)
		if !bytes.Equal(b, []byte{1, 2, 3}) {
			t.Errorf("%s: what it answered shares memory with what it was handed: % X", c.name, b)
		}
		untouched(t, c.name, b)
		again, want := c.call(b), c.call(b)
		again[0] = 0x55
		if want[0] != 1 {
			t.Errorf("%s: two answers share memory", c.name)
		}
	}
}

func TestGetAndLongLeaveTheirBytes(t *testing.T) {
	b := append(run(0x81, 9), 1)
	was := slices.Clone(b)
	bits.Get(b, 8)
	bits.Long(b)
	if !bytes.Equal(b, was) {
		t.Errorf("the bytes became % X", b)
	}
}

// P1.2

func TestFold(t *testing.T) {
	for _, c := range []struct {
		n    int64
		want uint64
	}{
		{0, 0}, {-1, 1}, {1, 2}, {-2, 3}, {2, 4}, {-150, 299}, {150, 300},
		{math.MaxInt64, math.MaxUint64 - 1}, {math.MinInt64, math.MaxUint64},
		{math.MinInt64 + 1, math.MaxUint64 - 2}, {1 << 32, 1 << 33}, {-1 << 32, 1<<33 - 1},
	} {
		if got := bits.Fold(c.n); got != c.want {
			t.Errorf("Fold(%d): %d, not %d", c.n, got, c.want)
		}
		if got := bits.Unfold(c.want); got != c.n {
			t.Errorf("Unfold(%d): %d, not %d", c.want, got, c.n)
		}
	}
	for _, n := range numbers() {
		if got := bits.Fold(bits.Unfold(n)); got != n {
			t.Errorf("Fold(Unfold(%d)): %d", n, got)
		}
		if got := bits.Unfold(bits.Fold(int64(n))); got != int64(n) {
			t.Errorf("Unfold(Fold(%d)): %d", int64(n), got)
		}
	}
}

func TestTurn(t *testing.T) {
	const n = 0x8000000000000001
	for _, c := range []struct {
		n    uint64
		by   int
		want uint64
	}{
		{n, 0, n}, {n, 1, 3}, {n, 4, 0x18}, {n, 63, 0xC000000000000000}, {n, 64, n}, {n, 65, 3},
		{n, -1, 0xC000000000000000}, {n, -4, 0x1800000000000000}, {n, -63, 3}, {n, -64, n}, {n, -65, 0xC000000000000000},
		{n, 64 * 1000003, n}, {n, 64*1000003 + 1, 3}, {n, -64*1000003 - 1, 0xC000000000000000},
		{n, math.MinInt, n}, {n, math.MaxInt, 0xC000000000000000}, {n, math.MinInt + 1, 3},
		{0, 17, 0}, {math.MaxUint64, 17, math.MaxUint64},
		{0x0102030405060708, 8, 0x0203040506070801}, {0x0102030405060708, -8, 0x0801020304050607},
	} {
		if got := bits.Turn(c.n, c.by); got != c.want {
			t.Errorf("Turn(%X, %d): %X, not %X", c.n, c.by, got, c.want)
		}
	}
	for by := -130; by <= 130; by++ {
		for place := range 64 {
			to := ((place+by)%64 + 64) % 64
			if got := bits.Turn(1<<place, by); got != 1<<to {
				t.Fatalf("Turn of bit %d by %d: %X", place, by, got)
			}
		}
	}
}

func TestNext(t *testing.T) {
	for _, c := range []struct {
		n, want uint32
		err     api.Errno
	}{
		{0, 1, api.OK}, {1, 2, api.OK}, {300, 301, api.OK},
		{api.MaxCount - 1, api.MaxCount, api.OK},
		{api.MaxCount, api.MaxCount, api.ErrMax},
		{api.MaxCount + 1, api.MaxCount + 1, api.ErrMax},
		{math.MaxUint32, math.MaxUint32, api.ErrMax},
	} {
		if got, err := bits.Next(c.n); got != c.want || err != c.err {
			t.Errorf("Next(%d): %d, %v, not %d, %v", c.n, got, err, c.want, c.err)
		}
	}
}

// P1.3

func TestHasWithWithout(t *testing.T) {
	for _, set := range numbers() {
		for n := range 64 {
			bit := uint64(1) << n
			if got := bits.Has(set, n); got != (set&bit != 0) {
				t.Fatalf("Has(%X, %d): %v", set, n, got)
			}
			if got := bits.With(set, n); got != set|bit {
				t.Fatalf("With(%X, %d): %X", set, n, got)
			}
			if got := bits.Without(set, n); got != set&^bit {
				t.Fatalf("Without(%X, %d): %X", set, n, got)
			}
		}
	}
}

func TestNodesThatNoSetHas(t *testing.T) {
	for _, set := range []uint64{0, 1, 5, 1 << 63, math.MaxUint64} {
		for _, n := range []int{-1, -63, -64, 64, 65, 127, 128, 1 << 32, math.MinInt, math.MaxInt} {
			if bits.Has(set, n) {
				t.Errorf("Has(%X, %d)", set, n)
			}
			if got := bits.With(set, n); got != set {
				t.Errorf("With(%X, %d): %X", set, n, got)
			}
			if got := bits.Without(set, n); got != set {
				t.Errorf("Without(%X, %d): %X", set, n, got)
			}
		}
	}
}

func TestCountAndList(t *testing.T) {
	all := make([]int, 64)
	for n := range all {
		all[n] = n
	}
	for _, c := range []struct {
		set  uint64
		want []int
	}{
		{0, nil}, {1, []int{0}}, {5, []int{0, 2}}, {0xF0, []int{4, 5, 6, 7}},
		{1 << 63, []int{63}}, {1<<63 | 1, []int{0, 63}}, {math.MaxUint64, all},
	} {
		if got := bits.List(c.set); !slices.Equal(got, c.want) {
			t.Errorf("List(%X): %v, not %v", c.set, got, c.want)
		}
		if got := bits.Count(c.set); got != len(c.want) {
			t.Errorf("Count(%X): %d, not %d", c.set, got, len(c.want))
		}
	}
	one, two := bits.List(5), bits.List(5)
	one[0] = 9
	if two[0] != 0 || bits.List(5)[0] != 0 {
		t.Error("two lists share memory")
	}
}

// P1.4

func TestWhatWasPutIsGot(t *testing.T) {
	for _, n := range numbers() {
		for size := 1; size <= 8; size++ {
			low := n
			if size < 8 {
				low = n % (1 << (8 * size))
			}
			b := bits.Put([]byte{7, 7}, n, size)
			if len(b) != 2+size {
				t.Fatalf("Put(%X, %d) has %d bytes", n, size, len(b)-2)
			}
			got, err := bits.Get(append(b[2:], 0xFF), size)
			if got != low || err != api.OK {
				t.Fatalf("Get(Put(%X), %d): %X, %v", n, size, got, err)
			}
		}
	}
}

func TestWhatWasMadeShortIsMadeLong(t *testing.T) {
	for _, n := range numbers() {
		b := bits.Short([]byte{0x80, 0x80}, n)[2:]
		if len(b) < 1 || len(b) > 10 {
			t.Fatalf("Short(%d): % X", n, b)
		}
		for _, behind := range [][]byte{nil, {0}, {0xFF, 0xFF}} {
			got, size, err := bits.Long(append(slices.Clone(b), behind...))
			if got != n || size != len(b) || err != api.OK {
				t.Fatalf("Long(Short(%d)): %d, %d, %v", n, got, size, err)
			}
		}
		for i := range b {
			if got, size, err := bits.Long(b[:i]); got != 0 || size != 0 || err != api.ErrEnd {
				t.Fatalf("Long(% X), cut: %d, %d, %v", b[:i], got, size, err)
			}
		}
	}
}

// P1.5

// texts are all texts of up to two bytes, and longer ones of bytes at the edges.
func texts() [][]byte {
	var out [][]byte
	for a := range 256 {
		out = append(out, []byte{byte(a)})
		for b := range 256 {
			out = append(out, []byte{byte(a), byte(b)})
		}
	}
	edges := []byte{0, 1, 2, 0x7F, 0x80, 0x81, 0xFF}
	for ahead := range 12 {
		for _, c := range []byte{0x80, 0x81, 0xFF} {
			for _, a := range edges {
				for _, b := range edges {
					out = append(out, append(run(c, ahead), a, b))
				}
			}
		}
	}
	return out
}

func TestATextThatIsLongIsTheShortOneOfItsNumber(t *testing.T) {
	long := 0
	for _, b := range texts() {
		n, size, err := bits.Long(b)
		if err != api.OK {
			if n != 0 || size != 0 {
				t.Fatalf("Long(% X): %d and %d beside %v", b, n, size, err)
			}
			continue
		}
		long++
		if !bytes.Equal(bits.Short(nil, n), b[:size]) {
			t.Fatalf("Long(% X): %d, of %d bytes, whose short one is % X", b, n, size, bits.Short(nil, n))
		}
	}
	if long < 128*256 {
		t.Fatalf("only %d texts were long", long)
	}
}

// P1.6

func TestASetIsWhatIsWithItsList(t *testing.T) {
	for _, set := range numbers() {
		list := bits.List(set)
		var with uint64
		without := set
		for i, n := range list {
			if i > 0 && list[i-1] >= n {
				t.Fatalf("List(%X) does not rise: %v", set, list)
			}
			if !bits.Has(set, n) {
				t.Fatalf("List(%X) has %d", set, n)
			}
			with, without = bits.With(with, n), bits.Without(without, n)
		}
		if with != set || without != 0 || bits.Count(set) != len(list) {
			t.Fatalf("of %X, with %v: %X, and without them: %X", set, list, with, without)
		}
	}
}
