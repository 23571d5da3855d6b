package crc_test

import (
	"bytes"
	"hash/crc32"
	"math"
	"slices"
	"testing"

	"parrel/crc"
)

// period: so many bytes 0 leave any number as it is (the turner is that of (x + 1) times one of degree 31 whose powers are 2^31 - 1). So what very many bytes do is told by few.
const period = 1<<31 - 1

// want is the sum of bytes, by the library.
func want(b []byte) uint32 { return crc32.Checksum(b, crc32.MakeTable(crc32.Castagnoli)) }

// told is the chapter's rule, word by word, from a sum on.
func told(sum uint32, b []byte) uint32 {
	n := ^sum
	for _, c := range b {
		n ^= uint32(c)
		for range 8 {
			if n%2 == 1 {
				n = n/2 ^ 0x82F63B78
			} else {
				n = n / 2
			}
		}
	}
	return n ^ 0xFFFFFFFF
}

// text is some bytes, by a rule without chance, so that a run is like any other.
func text(size int, seed uint64) []byte {
	out := make([]byte, size)
	x := seed*0x9E3779B97F4A7C15 + 1
	for i := range out {
		x ^= x << 13
		x ^= x >> 7
		x ^= x << 17
		out[i] = byte(x >> 24)
	}
	return out
}

// sums are numbers at the edges, each single bit, and some between.
func sums() []uint32 {
	out := []uint32{0, 1, 2, 0x82F63B78, 0xE3069283, math.MaxInt32, 1 << 31, math.MaxUint32 - 1, math.MaxUint32}
	for i := range 32 {
		out = append(out, 1<<i, ^uint32(1<<i), want(text(i+1, 7)))
	}
	return out
}

// sizes are lengths at the edges of bytes and words.
func sizes() []int {
	return []int{0, 1, 2, 3, 4, 5, 7, 8, 9, 15, 16, 17, 31, 32, 33, 63, 64, 65, 255, 256, 257, 1000, 4095, 4096, 4097}
}

// P2.1

func TestSumOfKnownBytes(t *testing.T) {
	rising, falling := make([]byte, 32), make([]byte, 32)
	for i := range rising {
		rising[i], falling[31-i] = byte(i), byte(i)
	}
	for _, c := range []struct {
		b    []byte
		want uint32
	}{
		{[]byte("123456789"), 0xE3069283},
		{nil, 0},
		{[]byte{}, 0},
		{[]byte{0}, 0x527D5351},
		{[]byte("a"), 0xC1D04330},
		{make([]byte, 32), 0x8A9136AA},
		{bytes.Repeat([]byte{0xFF}, 32), 0x62A8AB43},
		{rising, 0x46DD794E},
		{falling, 0x113FDB5C},
	} {
		if got := crc.Sum(c.b); got != c.want {
			t.Errorf("Sum(% X): %X, not %X", c.b, got, c.want)
		}
		if got := crc.More(0, c.b); got != c.want {
			t.Errorf("More(0, % X): %X, not %X", c.b, got, c.want)
		}
	}
}

func TestSumOfNoParts(t *testing.T) {
	if got := crc.Sum(); got != 0 {
		t.Errorf("Sum(): %X", got)
	}
	if got := crc.Sum([][]byte{}...); got != 0 {
		t.Errorf("Sum of an empty list of parts: %X", got)
	}
	if got := crc.Sum(nil, []byte{}, nil); got != 0 {
		t.Errorf("Sum of empty parts: %X", got)
	}
}

func TestSumOfOneByteAndOfLongTexts(t *testing.T) {
	for c := range 256 {
		b := []byte{byte(c)}
		if got := crc.Sum(b); got != want(b) {
			t.Fatalf("Sum(% X): %X, not %X", b, got, want(b))
		}
	}
	for _, size := range append(sizes(), 1<<16, 1<<20+1) {
		b := text(size, 3)
		if got := crc.Sum(b); got != want(b) {
			t.Fatalf("Sum of %d bytes: %X, not %X", size, got, want(b))
		}
	}
}

func TestMore(t *testing.T) {
	for _, sum := range sums() {
		for _, size := range []int{0, 1, 2, 3, 4, 5, 40} {
			b := text(size, uint64(sum))
			if got := crc.More(sum, b); got != told(sum, b) {
				t.Fatalf("More(%X, % X): %X, not %X", sum, b, got, told(sum, b))
			}
		}
		if crc.More(sum, nil) != sum || crc.More(sum, []byte{}) != sum {
			t.Fatalf("More(%X) of no bytes is another one", sum)
		}
	}
}

// P2.1 with R4.
func TestBytesAreLeftAsTheyAre(t *testing.T) {
	b := text(100, 5)
	parts := [][]byte{b[:40], nil, b[40:]}
	was := slices.Clone(b)
	crc.Sum(parts...)
	crc.More(9, b)
	if !bytes.Equal(b, was) || len(parts) != 3 || len(parts[0]) != 40 || parts[1] != nil || len(parts[2]) != 60 {
		t.Error("the bytes that were summed up have changed")
	}
}

// P2.2

func TestZeros(t *testing.T) {
	for _, sum := range sums() {
		for _, n := range sizes() {
			if got, want := crc.Zeros(sum, uint32(n)), told(sum, make([]byte, n)); got != want {
				t.Fatalf("Zeros(%X, %d): %X, not %X", sum, n, got, want)
			}
		}
	}
	for _, n := range []int{1 << 16, 1<<16 + 1, 1 << 20, 1<<24 - 1} {
		b := append(text(9, 1), make([]byte, n)...)
		if got := crc.Zeros(crc.Sum(b[:9]), uint32(n)); got != want(b) {
			t.Errorf("%d bytes 0 behind: %X, not %X", n, got, want(b))
		}
	}
}

func TestZerosOfVeryMany(t *testing.T) {
	for _, sum := range sums() {
		for _, c := range []struct{ n, few uint32 }{
			{period, 0}, {period + 1, 1}, {period + 300, 300}, {2 * period, 0}, {math.MaxUint32, 1},
		} {
			if got, want := crc.Zeros(sum, c.n), crc.Zeros(sum, c.few); got != want {
				t.Fatalf("Zeros(%X, %d): %X, not %X", sum, c.n, got, want)
			}
		}
		// One power of two is the one below it, twice.
		for i := 1; i < 32; i++ {
			if got, want := crc.Zeros(sum, 1<<i), crc.Zeros(crc.Zeros(sum, 1<<(i-1)), 1<<(i-1)); got != want {
				t.Fatalf("Zeros(%X, 2^%d): %X, not %X", sum, i, got, want)
			}
		}
	}
}

func TestJoin(t *testing.T) {
	for _, ahead := range sizes() {
		for _, size := range sizes() {
			b := append(text(ahead, 11), text(size, 13)...)
			if got := crc.Join(want(b[:ahead]), want(b[ahead:]), uint32(size)); got != want(b) {
				t.Fatalf("Join of %d and %d bytes: %X, not %X", ahead, size, got, want(b))
			}
		}
	}
}

// Of any numbers: what stands behind was begun with all bits 1, and would have been with a's; each bit in which they differ is turned by what is turned.
func TestJoinOfAnyNumbers(t *testing.T) {
	for _, a := range sums() {
		for _, b := range sums() {
			for _, size := range []uint32{0, 1, 2, 3, 4, 5, 64, 300} {
				zeros := make([]byte, size)
				want := b ^ told(a, zeros) ^ told(0, zeros)
				if got := crc.Join(a, b, size); got != want {
					t.Fatalf("Join(%X, %X, %d): %X, not %X", a, b, size, got, want)
				}
			}
			for _, c := range []struct{ size, few uint32 }{{period, 0}, {period + 5, 5}, {math.MaxUint32, 1}} {
				if got, want := crc.Join(a, b, c.size), crc.Join(a, b, c.few); got != want {
					t.Fatalf("Join(%X, %X, %d): %X, not %X", a, b, c.size, got, want)
				}
			}
		}
	}
}

func TestFlip(t *testing.T) {
	for _, size := range []int{1, 2, 3, 4, 5, 8, 9, 40, 300, 4096} {
		b := text(size, 17)
		sum := want(b)
		for _, behind := range []int{0, 1, 2, 3, 4, 7, 8, 39, 299, 4095} {
			if behind >= size {
				continue
			}
			for by := range 256 {
				turned := slices.Clone(b)
				turned[size-1-behind] ^= byte(by)
				if got := crc.Flip(sum, uint32(behind), byte(by)); got != want(turned) {
					t.Fatalf("%d bytes, the one with %d behind turned by %X: %X, not %X", size, behind, by, got, want(turned))
				}
			}
		}
	}
}

func TestFlipOfAnyNumbers(t *testing.T) {
	for _, sum := range sums() {
		for _, by := range []byte{0, 1, 2, 0x55, 0x80, 0xFF} {
			for _, behind := range []uint32{0, 1, 2, 3, 4, 5, 64, 300} {
				b := make([]byte, behind+1)
				plain := told(0, b)
				b[0] = by
				want := sum ^ plain ^ told(0, b)
				if got := crc.Flip(sum, behind, by); got != want {
					t.Fatalf("Flip(%X, %d, %X): %X, not %X", sum, behind, by, got, want)
				}
			}
			for _, c := range []struct{ behind, few uint32 }{{period, 0}, {period + 7, 7}, {math.MaxUint32 - 1, 0}, {math.MaxUint32, 1}} {
				if got, want := crc.Flip(sum, c.behind, by), crc.Flip(sum, c.few, by); got != want {
					t.Fatalf("Flip(%X, %d, %X): %X, not %X", sum, c.behind, by, got, want)
				}
			}
		}
		for _, behind := range []uint32{0, 1, period, math.MaxUint32} {
			if got := crc.Flip(sum, behind, 0); got != sum {
				t.Fatalf("Flip(%X, %d, 0): %X", sum, behind, got)
			}
		}
	}
}

// P2.3

func TestSumsHangOnNoCuts(t *testing.T) {
	b := text(60, 19)
	sum := crc.Sum(b)
	for i := range len(b) + 1 {
		if got := crc.More(crc.Sum(b[:i]), b[i:]); got != sum {
			t.Fatalf("More, cut at %d: %X, not %X", i, got, sum)
		}
		for j := i; j <= len(b); j++ {
			if got := crc.Sum(b[:i], b[i:j], b[j:]); got != sum {
				t.Fatalf("Sum, cut at %d and %d: %X, not %X", i, j, got, sum)
			}
		}
	}
	var single [][]byte
	for i := range b {
		single = append(single, b[i:i+1], nil)
	}
	if got := crc.Sum(single...); got != sum {
		t.Fatalf("Sum, byte by byte: %X, not %X", got, sum)
	}
	for _, sum := range sums() {
		for _, n := range []uint32{0, 1, 5, 300, period} {
			if got, want := crc.Zeros(crc.Zeros(sum, n), 1000), crc.Zeros(sum, n+1000); got != want {
				t.Fatalf("Zeros(%X), cut at %d: %X, not %X", sum, n, got, want)
			}
		}
	}
}

// P2.4

func TestTheSumOfTwoTextsFollowsFromTheirs(t *testing.T) {
	b := text(200, 23)
	for i := range len(b) + 1 {
		if got := crc.Join(crc.Sum(b[:i]), crc.Sum(b[i:]), uint32(len(b)-i)); got != crc.Sum(b) {
			t.Fatalf("Join at %d: %X, not %X", i, got, crc.Sum(b))
		}
	}
	one, two, three := crc.Sum(b[:50]), crc.Sum(b[50:120]), crc.Sum(b[120:])
	if crc.Join(crc.Join(one, two, 70), three, 80) != crc.Join(one, crc.Join(two, three, 80), 150) {
		t.Error("three texts' sum hangs on which two are joined first")
	}
	for _, sum := range sums() {
		if crc.Join(sum, 0, 0) != sum || crc.Join(0, sum, 77) != sum {
			t.Fatalf("Join of %X with an empty text is another one", sum)
		}
	}
}

// P2.5

func TestOneTurnedByteIsTold(t *testing.T) {
	for _, b := range [][]byte{text(50, 29), make([]byte, 50), bytes.Repeat([]byte{0xFF}, 50)} {
		sum := crc.Sum(b)
		for i := range b {
			seen := map[uint32]int{sum: 0}
			for by := 1; by < 256; by++ {
				turned := slices.Clone(b)
				turned[i] ^= byte(by)
				other := crc.Sum(turned)
				if was, ok := seen[other]; ok {
					t.Fatalf("byte %d turned by %X and by %X: one sum, %X", i, was, by, other)
				}
				seen[other] = by
				behind := uint32(len(b) - 1 - i)
				if crc.Flip(sum, behind, byte(by)) != other || crc.Flip(other, behind, byte(by)) != sum {
					t.Fatalf("byte %d turned by %X: Flip does not tell the one sum from the other", i, by)
				}
			}
		}
	}
}

func TestFlipTellsFarBytes(t *testing.T) {
	for _, behind := range []uint32{0, 1 << 16, 1 << 30, period - 1, math.MaxUint32} {
		for by := 1; by < 256; by++ {
			other := crc.Flip(0, behind, byte(by))
			if other == 0 {
				t.Fatalf("Flip(0, %d, %X): the same sum", behind, by)
			}
			if back := crc.Flip(other, behind, byte(by)); back != 0 {
				t.Fatalf("Flip(%X, %d, %X): %X, not 0", other, behind, by, back)
			}
		}
	}
}
