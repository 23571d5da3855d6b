// Package bits is layer 1: numbers as bytes and as sets: see shared/doc/01-bits.md.
package bits

import (
	"iter"
	words "math/bits"

	"parrel/api"
)

const (
	wordBits  = 64
	wordBytes = 8
	byteBits  = 8
	shortBits = 7              // bits of the number in each byte of a short one
	follows   = 1 << shortBits // the bit that tells that another byte follows
	own       = follows - 1    // the bits that are the number's own
	mostShort = 10             // bytes of the longest short number
	mostLast  = 1              // the greatest tenth byte: nine others leave one bit of 64
)

// Put puts a number's bytes behind others.
func Put(b []byte, n uint64, size int) []byte {
	size = max(0, min(size, wordBytes))
	out := copyWithRoom(b, size)
	for i := size - 1; i >= 0; i-- {
		out = append(out, byte(n>>(byteBits*i)))
	}
	return out
}

// Get is a number of bytes.
func Get(b []byte, size int) (uint64, api.Errno) {
	if size < 1 || size > wordBytes {
		return 0, api.ErrForm
	}
	if len(b) < size {
		return 0, api.ErrEnd
	}
	var n uint64
	for _, c := range b[:size] {
		n = n<<byteBits | uint64(c)
	}
	return n, api.OK
}

// Short puts a short number behind others.
func Short(b []byte, n uint64) []byte {
	out := copyWithRoom(b, mostShort)
	for n > own {
		out = append(out, byte(n)|follows)
		n >>= shortBits
	}
	return append(out, byte(n))
}

// Long is a short number's.
func Long(b []byte) (uint64, int, api.Errno) {
	size := shortSize(b)
	if size == 0 {
		return 0, 0, api.ErrEnd
	}
	last := b[size-1]
	if size > 1 && last == 0 {
		return 0, 0, api.ErrForm
	}
	if size > mostShort || size == mostShort && last > mostLast {
		return 0, 0, api.ErrForm
	}
	var n uint64
	for i, c := range b[:size] {
		n |= uint64(c&own) << (shortBits * i)
	}
	return n, size, api.OK
}

// Fold makes a number one from 0 on.
func Fold(n int64) uint64 {
	// The sign spread over all bits: turning by it makes 2n of an n below 0 into -2n-1, and nothing leaves its type.
	return uint64(n)<<1 ^ uint64(n>>(wordBits-1))
}

// Unfold makes it what it was.
func Unfold(n uint64) int64 { return int64(n>>1 ^ -(n & 1)) }

// Turn turns bits round.
func Turn(n uint64, by int) uint64 { return words.RotateLeft64(n, by) }

// Next is one more.
func Next(n uint32) (uint32, api.Errno) {
	if n >= api.MaxCount {
		return n, api.ErrMax
	}
	return n + 1, api.OK
}

// Has tells whether a node is in a set.
func Has(set uint64, n int) bool { return set&only(n) != 0 }

// With is a set and a node.
func With(set uint64, n int) uint64 { return set | only(n) }

// Without is a set but a node.
func Without(set uint64, n int) uint64 { return set &^ only(n) }

// Count is how many are in a set.
func Count(set uint64) int { return words.OnesCount64(set) }

// List are those.
func List(set uint64) []int {
	out := make([]int, 0, Count(set))
	for n := range nodes(set) {
		out = append(out, n)
	}
	return out
}

// nodes yields a set's nodes, rising.
func nodes(set uint64) iter.Seq[int] {
	return func(yield func(int) bool) {
		for left := set; left != 0; left &= left - 1 {
			if !yield(words.TrailingZeros64(left)) {
				return
			}
		}
	}
}

// only is the set of one node, and the empty one if no set can have it: so that such a node changes nothing.
func only(n int) uint64 {
	if n < 0 || n >= wordBits {
		return 0
	}
	return 1 << n
}

// shortSize is how many bytes the short number has that b begins with, however many bits that are; 0, if b ends ahead of its end.
func shortSize(b []byte) int {
	for i, c := range b {
		if c < follows {
			return i + 1
		}
	}
	return 0
}

// copyWithRoom is a copy of b: an append to b itself could write into memory that is the caller's.
func copyWithRoom(b []byte, room int) []byte {
	return append(make([]byte, 0, len(b)+room), b...)
}
