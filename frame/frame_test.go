package frame_test

import (
	"bytes"
	"hash/crc32"
	"math"
	"slices"
	"testing"

	"parrel/api"
	"parrel/frame"
)

// head is how many bytes a frame has ahead of its load.
const head = 8

// raw is the chapter's rule of a frame, word by word, with the library's sum; of a load that is too long, too.
func raw(load []byte) []byte {
	length := []byte{byte(len(load) / 256), byte(len(load) % 256)}
	sum := crc32.Checksum(slices.Concat(length, load), crc32.MakeTable(crc32.Castagnoli))
	out := append([]byte{0xA7, 0x5E}, length...)
	out = append(out, byte(sum>>24), byte(sum>>16), byte(sum>>8), byte(sum))
	return append(out, load...)
}

// first is what Next is to answer: the chapter's cases, one behind the other.
func first(b []byte) ([]byte, int, api.Errno) {
	switch {
	case len(b) == 0:
		return nil, 0, api.ErrEnd
	case b[0] != 0xA7:
		return nil, 0, api.ErrForm
	case len(b) == 1:
		return nil, 0, api.ErrEnd
	case b[1] != 0x5E:
		return nil, 0, api.ErrForm
	case len(b) < 4:
		return nil, 0, api.ErrEnd
	}
	length := int(b[2])*256 + int(b[3])
	switch {
	case length > 4096:
		return nil, 0, api.ErrForm
	case len(b) < head+length:
		return nil, 0, api.ErrEnd
	case !bytes.Equal(raw(b[head:head+length]), b[:head+length]):
		return nil, 0, api.ErrSum
	}
	return b[head : head+length], head + length, api.OK
}

// text is some bytes, by a rule without chance, so that a run is like any other.
func text(size int, seed uint64) []byte {
	out := make([]byte, size)
	x := seed*0x9E3779B97F4A7C15 + 1
	for i := range out {
		x ^= x << 13
		x ^= x >> 7
		x ^= x << 17
		out[i] = byte(x >> 24)
	}
	return out
}

// loads are of sizes at the edges of a length's bytes and of what a frame takes; some look like frames themselves.
func loads() [][]byte {
	out := [][]byte{nil, {}, {0}, {0xFF}, {0xA7}, {0xA7, 0x5E}, raw(nil), raw([]byte("ab")), []byte("123456789")}
	for _, size := range []int{3, 4, 7, 8, 9, 64, 255, 256, 257, 511, 512, 4095, 4096} {
		out = append(out, text(size, uint64(size)), make([]byte, size))
	}
	return out
}

// tails are what may stand behind a frame.
func tails() [][]byte {
	return [][]byte{nil, {0}, {0xA7}, {0xA7, 0x5E}, {0x5E, 0xA7}, raw(nil), raw(nil)[:5], text(300, 5), make([]byte, 5000)}
}

func put(t *testing.T, b, load []byte) []byte {
	t.Helper()
	out, why := frame.Put(b, load)
	if why != api.OK {
		t.Fatalf("Put of %d bytes: %v", len(load), why)
	}
	return out
}

// checkNext holds Next against the chapter's cases.
func checkNext(t *testing.T, what string, b []byte) {
	t.Helper()
	load, size, why := frame.Next(b)
	wantLoad, wantSize, wantWhy := first(b)
	if !bytes.Equal(load, wantLoad) || size != wantSize || why != wantWhy {
		t.Fatalf("%s: Next: %d bytes of a load, %d, %v, not %d, %d, %v", what, len(load), size, why, len(wantLoad), wantSize, wantWhy)
	}
}

// checkFails asks for an error, and nothing beside it.
func checkFails(t *testing.T, what string, b []byte, want api.Errno) {
	t.Helper()
	load, size, why := frame.Next(b)
	if len(load) != 0 || size != 0 || why != want {
		t.Fatalf("%s: Next: % X, %d, %v, not %v", what, load, size, why, want)
	}
}

func same(a, b [][]byte) bool { return slices.EqualFunc(a, b, bytes.Equal) }

// P4.1

func TestExample(t *testing.T) {
	want := []byte{0xA7, 0x5E, 0, 0, 0xF1, 0x61, 0x77, 0xD2}
	for _, load := range [][]byte{nil, {}} {
		if got := put(t, nil, load); !bytes.Equal(got, want) {
			t.Errorf("% X, not % X", got, want)
		}
	}
	if load, size, why := frame.Next(want); len(load) != 0 || size != 8 || why != api.OK {
		t.Error(load, size, why)
	}
}

func TestPut(t *testing.T) {
	for _, load := range loads() {
		for _, b := range tails() {
			if got, want := put(t, b, load), slices.Concat(b, raw(load)); !bytes.Equal(got, want) {
				t.Fatalf("Put of %d bytes behind %d: % X, not % X", len(load), len(b), got, want)
			}
		}
	}
}

func TestPutOfALoadThatIsTooLong(t *testing.T) {
	for _, size := range []int{4097, 4098, 8192, 1<<16 - 1, 1 << 16, 1<<16 + 1, 1 << 20} {
		for _, b := range [][]byte{nil, {1, 2, 3}} {
			if got, why := frame.Put(b, make([]byte, size)); len(got) != 0 || why != api.ErrMany {
				t.Errorf("of %d bytes: %d bytes, %v", size, len(got), why)
			}
		}
	}
}

// R4: neither list is written into, not even behind its end, and what is answered is apart from both.
func TestPutLeavesWhatItIsHanded(t *testing.T) {
	for _, size := range []int{0, 1, 5} {
		all := text(100, 3)
		before := slices.Clone(all)
		got := put(t, all[:10], all[5:5+size])
		if !bytes.Equal(all, before) {
			t.Fatal("what was handed in has changed")
		}
		clear(got)
		_ = append(got[:0], make([]byte, cap(got))...)
		if !bytes.Equal(all, before) {
			t.Fatal("what was answered is the caller's own memory")
		}
		got = put(t, all[:10], all[5:5+size])
		clear(all)
		if !bytes.Equal(got, slices.Concat(before[:10], raw(before[5:5+size]))) {
			t.Fatal("what was answered was turned by what was handed in")
		}
	}
}

func TestSize(t *testing.T) {
	for size := range 4097 {
		if got := frame.Size(size); got != head+size {
			t.Fatalf("Size(%d): %d", size, got)
		}
	}
	for _, size := range []int{-1, -7, -8, -9, -4096, math.MinInt32, math.MinInt, 4097, 4098, 1 << 16, math.MaxInt32, math.MaxInt - 8, math.MaxInt} {
		if got := frame.Size(size); got != 0 {
			t.Errorf("Size(%d): %d", size, got)
		}
	}
	for _, load := range loads() {
		if got := len(put(t, nil, load)); got != frame.Size(len(load)) {
			t.Errorf("a frame of %d bytes has %d", len(load), got)
		}
	}
}

// P4.2

func TestNextOfNothing(t *testing.T) {
	checkFails(t, "nil", nil, api.ErrEnd)
	checkFails(t, "empty", []byte{}, api.ErrEnd)
}

func TestNextOfAnyMark(t *testing.T) {
	rest := raw([]byte("ab"))[2:]
	for one := range 256 {
		checkNext(t, "one byte", []byte{byte(one)})
		if one != 0xA7 {
			checkFails(t, "first byte", []byte{byte(one)}, api.ErrForm)
		}
		for two := range 256 {
			b := []byte{byte(one), byte(two)}
			checkNext(t, "two bytes", b)
			checkNext(t, "a mark and a frame's rest", append(b, rest...))
			if one == 0xA7 && two != 0x5E {
				checkFails(t, "second byte", b, api.ErrForm)
			}
		}
	}
}

func TestNextOfAnyLength(t *testing.T) {
	for n := range 1 << 16 {
		b := []byte{0xA7, 0x5E, byte(n >> 8), byte(n)}
		want, wantOfEight := api.ErrEnd, api.ErrEnd
		if n > 4096 {
			want, wantOfEight = api.ErrForm, api.ErrForm
		}
		if n == 0 {
			wantOfEight = api.ErrSum
		}
		checkFails(t, "three bytes", b[:3], api.ErrEnd)
		checkFails(t, "four bytes", b, want)
		checkFails(t, "eight bytes", append(b, 0xDE, 0xAD, 0xBE, 0xE0), wantOfEight)
	}
}

// A load that is too long is refused though its bytes and its sum are there.
func TestNextOfALoadThatIsTooLong(t *testing.T) {
	for _, size := range []int{4097, 4098, 8192, 1<<16 - 1} {
		checkFails(t, "too long", raw(make([]byte, size)), api.ErrForm)
	}
	checkNext(t, "the longest", raw(text(4096, 2)))
}

// The length stands ahead of the sum: of a frame that lacks a byte its sum is not asked for.
func TestNextAsksForTheBytesAheadOfTheSum(t *testing.T) {
	b := raw([]byte("abc"))
	b[4] ^= 1
	checkFails(t, "a wrong sum", b, api.ErrSum)
	checkFails(t, "a wrong sum, and one byte too few", b[:len(b)-1], api.ErrEnd)
	b[0] = 0
	checkFails(t, "a wrong mark and a wrong sum", b, api.ErrForm)
}

func TestNextOfEveryWrongSum(t *testing.T) {
	good := raw([]byte("abc"))
	for at := 4; at < 8; at++ {
		for by := 1; by < 256; by++ {
			b := slices.Clone(good)
			b[at] ^= byte(by)
			checkFails(t, "a wrong sum", b, api.ErrSum)
		}
	}
	// The sum is that of the length, too, with the highest byte first.
	sum := crc32.Checksum([]byte("abc"), crc32.MakeTable(crc32.Castagnoli))
	b := slices.Clone(good)
	copy(b[4:], []byte{byte(sum >> 24), byte(sum >> 16), byte(sum >> 8), byte(sum)})
	checkFails(t, "a sum of the load alone", b, api.ErrSum)
	b = slices.Clone(good)
	slices.Reverse(b[4:8])
	checkFails(t, "a sum the other way round", b, api.ErrSum)
}

// R4
func TestNextAnswersACopy(t *testing.T) {
	b := slices.Concat(raw([]byte("abc")), raw([]byte("d")))
	before := slices.Clone(b)
	load, _, _ := frame.Next(b)
	clear(load)
	_ = append(load, 9, 9, 9)
	if !bytes.Equal(b, before) {
		t.Error("what was answered is the caller's own memory")
	}
	load, _, _ = frame.Next(b)
	clear(b)
	if string(load) != "abc" {
		t.Error("what was answered was turned by what was handed in")
	}
}

// P4.3

// checkAll holds Scan and All against the chapter's rule, and answers at which place Scan ended.
func checkAll(t *testing.T, what string, b []byte) int {
	t.Helper()
	var want [][]byte
	place := 0
	load, size, why := first(b)
	for why == api.OK {
		want = append(want, load)
		place += size
		load, size, why = first(b[place:])
	}
	if got, at := frame.Scan(b); !same(got, want) || at != place {
		t.Fatalf("%s: Scan: %d loads up to %d, not %d up to %d", what, len(got), at, len(want), place)
	}
	if place == len(b) {
		why = api.OK
	} else {
		want = nil
	}
	if got, gotWhy := frame.All(b); !same(got, want) || gotWhy != why {
		t.Fatalf("%s: All: %d loads, %v, not %d, %v", what, len(got), gotWhy, len(want), why)
	}
	return place
}

func TestAllOfNothing(t *testing.T) {
	for _, b := range [][]byte{nil, {}} {
		if got, at := frame.Scan(b); len(got) != 0 || at != 0 {
			t.Error("Scan:", got, at)
		}
		if got, why := frame.All(b); len(got) != 0 || why != api.OK {
			t.Error("All:", got, why)
		}
	}
}

func TestAllFrames(t *testing.T) {
	var b []byte
	var want [][]byte
	for range 3 {
		for _, load := range loads() {
			b = put(t, b, load)
			want = append(want, load)
			if got, at := frame.Scan(b); !same(got, want) || at != len(b) {
				t.Fatalf("Scan of %d frames: %d, %d", len(want), len(got), at)
			}
			if got, why := frame.All(b); !same(got, want) || why != api.OK {
				t.Fatalf("All of %d frames: %d, %v", len(want), len(got), why)
			}
		}
	}
}

func TestAllTellsTheErrorAtThePlace(t *testing.T) {
	frames := slices.Concat(raw([]byte("ab")), raw(nil), raw([]byte("c")))
	wrongSum := raw([]byte("d"))
	wrongSum[7] ^= 0x80
	for _, c := range []struct {
		what   string
		behind []byte
		want   api.Errno
	}{
		{"no mark", []byte{0}, api.ErrForm},
		{"half a mark", []byte{0xA7}, api.ErrEnd},
		{"a wrong mark", []byte{0xA7, 0xA7}, api.ErrForm},
		{"no length", []byte{0xA7, 0x5E, 0xFF}, api.ErrEnd},
		{"a great length", []byte{0xA7, 0x5E, 0x10, 1}, api.ErrForm},
		{"no sum", []byte{0xA7, 0x5E, 0, 0}, api.ErrEnd},
		{"a wrong sum", wrongSum, api.ErrSum},
	} {
		// Whatever frame stands behind the place is not found.
		for _, b := range [][]byte{c.behind, slices.Concat(frames, c.behind)} {
			if at := checkAll(t, c.what, b); at != len(b)-len(c.behind) {
				t.Errorf("%s: up to %d", c.what, at)
			}
			if got, why := frame.All(b); len(got) != 0 || why != c.want {
				t.Errorf("%s: All: %d loads, %v, not %v", c.what, len(got), why, c.want)
			}
		}
		if c.want != api.ErrEnd {
			b := slices.Concat(frames, c.behind, frames)
			if at := checkAll(t, c.what, b); at != len(frames) {
				t.Errorf("%s, and frames behind: up to %d", c.what, at)
			}
		}
	}
}

// The lists of an answer are apart from one another, and from what was handed in.
func TestLoadsAreApart(t *testing.T) {
	b := slices.Concat(raw([]byte("ab")), raw(nil), raw([]byte("cd")), raw([]byte("ef")))
	before := slices.Clone(b)
	want := [][]byte{[]byte("ab"), nil, []byte("cd"), []byte("ef")}
	scanned, _ := frame.Scan(b)
	all, _ := frame.All(b)
	for _, got := range [][][]byte{scanned, all} {
		for i := range got {
			_ = append(got[i], 9, 9, 9, 9, 9, 9, 9, 9, 9, 9)
		}
		if !same(got, want) || !bytes.Equal(b, before) {
			t.Error("an append to one load turned something else")
		}
		clear(got[0])
		if !same(got[1:], want[1:]) || !bytes.Equal(b, before) {
			t.Error("one load turned something else")
		}
	}
	again, _ := frame.Scan(b)
	clear(b)
	if !same(again, want) {
		t.Error("what was answered was turned by what was handed in")
	}
}

// Rows of frames, whole ones and such as were cut or turned, and what is no frame, in many orders.
func TestAllOfMixedBytes(t *testing.T) {
	for seed := range uint64(3000) {
		var b []byte
		for _, c := range text(5, seed) {
			load := text(int(c>>3), seed+uint64(c))
			one := raw(load)
			switch c % 8 {
			case 5:
				one[int(c)%len(one)] ^= c | 1
			case 6:
				one = one[:int(c)%len(one)]
			case 7:
				one = load
			}
			b = append(b, one...)
		}
		checkAll(t, "mixed", b)
	}
}

// P4.4

func TestWhatWasPutIsNext(t *testing.T) {
	for _, load := range loads() {
		for _, tail := range tails() {
			b := append(put(t, nil, load), tail...)
			if got, size, why := frame.Next(b); !bytes.Equal(got, load) || size != frame.Size(len(load)) || why != api.OK {
				t.Fatalf("%d bytes, %d behind: %d bytes, %d, %v", len(load), len(tail), len(got), size, why)
			}
			b = put(t, tail, load)[len(tail):]
			if got, size, why := frame.Next(b); !bytes.Equal(got, load) || size != len(b) || why != api.OK {
				t.Fatalf("%d bytes, %d ahead: %d bytes, %d, %v", len(load), len(tail), len(got), size, why)
			}
		}
	}
	for size := 0; size <= 4096; size += 13 {
		load := text(size, 9)
		if got, n, why := frame.Next(put(t, nil, load)); !bytes.Equal(got, load) || n != head+size || why != api.OK {
			t.Fatalf("%d bytes: %d bytes, %d, %v", size, len(got), n, why)
		}
	}
}

// P4.5

func TestAFrameThatWasCut(t *testing.T) {
	for _, load := range loads() {
		b := put(t, nil, load)
		for size := range b {
			checkFails(t, "cut", b[:size:size], api.ErrEnd)
			checkFails(t, "cut, with more behind its end", b[:size], api.ErrEnd)
		}
	}
}

// P4.6

func TestAFrameOneByteOfWhichWasTurned(t *testing.T) {
	for _, load := range loads() {
		good := put(t, nil, load)
		for at := 0; at < len(good); at++ {
			// A long load is long to sum: of its frame all ways to turn the mark and the length, and a few for some of the other bytes, the last one among them.
			ways := 1
			if at >= 4 && len(load) > 64 {
				ways = 61
			}
			for by := 1; by < 256; by += ways {
				checkTurned(t, good, load, at, byte(by))
			}
			if at >= head && len(load) > 64 {
				at = max(at, min(at+96, len(good)-2))
			}
		}
	}
}

// checkTurned turns a byte of a frame, and has other things behind it, among which a length that was turned may find its load.
func checkTurned(t *testing.T, good, load []byte, at int, by byte) {
	t.Helper()
	for _, tail := range [][]byte{nil, good} {
		b := slices.Concat(good, tail)
		b[at] ^= by
		got, size, why := frame.Next(b)
		if why == api.OK && len(got) == len(load) || why != api.OK && (len(got) != 0 || size != 0) {
			t.Fatalf("byte %d of a frame of %d, turned by %X: %d bytes, %d, %v", at, len(load), by, len(got), size, why)
		}
		if want := api.ErrForm; at < 2 && why != want {
			t.Fatalf("byte %d turned by %X: %v, not %v", at, by, why, want)
		}
		if want := api.ErrSum; at >= 4 && why != want {
			t.Fatalf("byte %d turned by %X: %v, not %v", at, by, why, want)
		}
		if got, _ := frame.Scan(b); len(got) > 0 && len(got[0]) == len(load) {
			t.Fatalf("byte %d turned by %X: Scan finds a load", at, by)
		}
	}
}

// P4.7

func TestFramesTheLastOfWhichWasCut(t *testing.T) {
	all := loads()[:17]
	for n := range all {
		var ahead []byte
		for _, load := range all[:n] {
			ahead = put(t, ahead, load)
		}
		last := put(t, nil, all[n])
		for size := range last {
			b := slices.Concat(ahead, last[:size])
			if got, at := frame.Scan(b); !same(got, all[:n]) || at != len(ahead) {
				t.Fatalf("%d frames, and %d bytes of one: %d, %d", n, size, len(got), at)
			}
			got, why := frame.All(b)
			if size == 0 && (!same(got, all[:n]) || why != api.OK) {
				t.Fatalf("%d frames: All: %d, %v", n, len(got), why)
			}
			if size > 0 && (len(got) != 0 || why != api.ErrEnd) {
				t.Fatalf("%d frames, and %d bytes of one: All: %d, %v", n, size, len(got), why)
			}
		}
	}
}
