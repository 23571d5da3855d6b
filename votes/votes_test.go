package votes_test

import (
	"bytes"
	"math"
	"slices"
	"testing"

	"parrel/api"
	"parrel/code"
	"parrel/votes"
)

// The limits, as the document tells them.
const (
	nodes     = 8
	mostVotes = 15
	most      = 1<<31 - 1
	sets      = 1 << nodes // all sets of nodes are below it
)

// made is a configuration, whether or not it may be.
func made(epoch uint32, r, w uint8, each ...uint8) api.Config {
	c := api.Config{Epoch: epoch, R: r, W: w}
	for n, v := range each {
		c.Votes[n] = v
	}
	return c
}

// shares are votes of the nodes: of those that may be, and of those that may not.
func shares() [][]uint8 {
	return [][]uint8{
		{}, {1}, {0, 0, 0, 0, 0, 0, 0, 1}, {1, 1}, {1, 0, 1}, {1, 1, 1}, {2, 1, 1}, {0, 3, 0, 2, 1}, {5, 4, 3, 2, 1},
		{1, 1, 1, 1, 1, 1, 1, 1}, {1, 2, 3, 4, 5, 6, 7, 8}, {8, 7, 6, 5, 4, 3, 2, 1}, {15, 15, 15, 15, 15, 15, 15, 15}, {15, 0, 1, 0, 15, 2, 0, 1},
		{1, 2, 4, 8, 0, 3}, {16}, {1, 1, 16}, {255, 255, 255, 255, 255, 255, 255, 255}, {0, 128, 0, 0, 128}, {0, 0, 0, 0, 0, 0, 0, 16},
	}
}

// chance is a row of numbers, the same each time.
type chance uint64

func (x *chance) below(n uint64) uint64 {
	*x ^= *x << 13
	*x ^= *x >> 7
	*x ^= *x << 17
	return uint64(*x>>11) % n
}

// mixed are many configurations: of few votes, of many, and of more than a node may have.
func mixed(count int) []api.Config {
	x := chance(0x9E3779B97F4A7C15)
	var out []api.Config
	for range count {
		c := api.Config{Epoch: uint32(1 + x.below(9)), R: uint8(x.below(20)), W: uint8(x.below(20))}
		top := []uint64{2, 3, 6, 16, 256}[x.below(5)]
		for n := range nodes {
			c.Votes[n] = uint8(x.below(top))
		}
		out = append(out, c)
	}
	return out
}

// all are configurations of the shares, and mixed ones.
func all() []api.Config {
	out := mixed(40)
	for _, each := range shares() {
		out = append(out, made(1, 1, 1, each...))
	}
	return out
}

// lawful are configurations that may be, at the edges of what R and W may be.
func lawful(t *testing.T) []api.Config {
	var out []api.Config
	for _, each := range shares() {
		total := count(made(1, 1, 1, each...), math.MaxUint64)
		if total == 0 || slices.Max(each) > mostVotes {
			continue
		}
		half := total/2 + 1
		for _, w := range []int{half, (half + total) / 2, total} {
			for _, r := range []int{total - w + 1, total} {
				c, why := votes.Make(1, uint8(r), uint8(w), each...)
				if why != api.OK {
					t.Fatal(each, r, w, why)
				}
				out = append(out, c)
			}
		}
	}
	return out
}

// count is how many votes a set has, told without package votes.
func count(c api.Config, set uint64) int {
	sum := 0
	for n := range nodes {
		if set>>n&1 == 1 {
			sum += int(c.Votes[n])
		}
	}
	return sum
}

// may is whether a configuration may be, told without package votes.
func may(c api.Config) bool {
	total := 0
	for _, v := range c.Votes {
		if v > mostVotes {
			return false
		}
		total += int(v)
	}
	r, w := int(c.R), int(c.W)
	return c.Epoch >= 1 && c.Epoch <= most && 1 <= r && r <= total && 1 <= w && w <= total && r+w > total && w+w > total
}

// size is how many nodes a set has.
func size(set uint64) int {
	n := 0
	for ; set != 0; set >>= 1 {
		n += int(set & 1)
	}
	return n
}

// ofVoters tells whether a set has no other nodes than voters.
func ofVoters(c api.Config, set uint64) bool {
	for n := range 64 {
		if set>>n&1 == 1 && (n >= nodes || c.Votes[n] == 0) {
			return false
		}
	}
	return true
}

// wants are numbers of votes: none, each that a set could have, those at the ends of its total, and at the type's ends.
func wants(total int) []int {
	out := []int{math.MinInt, -300, -1, math.MaxInt, math.MaxInt - 1, 1 << 32, 1 << 16, total - 1, total, total + 1, total + 256}
	for n := range min(total+3, 40) {
		out = append(out, n)
	}
	return out
}

// P6.1

func TestExample(t *testing.T) {
	c, why := votes.Make(1, 2, 2, 1, 1, 1)
	if c != (api.Config{Epoch: 1, R: 2, W: 2, Votes: [nodes]uint8{1, 1, 1}}) || why != api.OK {
		t.Error(c, why)
	}
	if got := votes.Quorums(c, 2); !slices.Equal(got, []uint64{0b011, 0b101, 0b110}) {
		t.Error(got)
	}
}

func TestMake(t *testing.T) {
	full := []uint8{15, 15, 15, 15, 15, 15, 15, 15}
	for _, x := range []struct {
		epoch uint32
		r, w  uint8
		each  []uint8
	}{
		{1, 1, 1, []uint8{1}},
		{2, 15, 15, []uint8{15}},
		{most, 1, 15, []uint8{15}},
		{most - 1, 1, 2, []uint8{1, 1}},
		{3, 1, 3, []uint8{1, 1, 1}},
		{3, 3, 2, []uint8{1, 1, 1}},
		{9, 2, 3, []uint8{2, 1, 1}},
		{9, 1, 1, []uint8{0, 0, 0, 0, 0, 0, 0, 1}},
		{9, 1, 1, []uint8{0, 1, 0, 0}},
		{1, 18, 19, []uint8{1, 2, 3, 4, 5, 6, 7, 8}},
		{1, 1, 120, full}, {1, 60, 61, full}, {1, 120, 61, full}, {1, 120, 120, full},
	} {
		want := made(x.epoch, x.r, x.w, x.each...)
		if got, why := votes.Make(x.epoch, x.r, x.w, x.each...); got != want || why != api.OK {
			t.Error(x, got, why)
		}
	}
}

func TestMakeWhatMayNotBe(t *testing.T) {
	for _, x := range []struct {
		what  string
		epoch uint32
		r, w  uint8
		each  []uint8
	}{
		{"epoch 0", 0, 2, 2, []uint8{1, 1, 1}},
		{"epoch above the greatest", most + 1, 2, 2, []uint8{1, 1, 1}},
		{"greatest epoch of the type", math.MaxUint32, 2, 2, []uint8{1, 1, 1}},
		{"no votes at all", 1, 1, 1, nil},
		{"no votes at all, and none asked for", 1, 0, 0, nil},
		{"votes that are all 0", 1, 1, 1, []uint8{0, 0, 0}},
		{"16 votes of the first node", 1, 9, 9, []uint8{16}},
		{"16 votes of the last node", 1, 9, 9, []uint8{0, 0, 0, 0, 0, 0, 0, 16}},
		{"255 votes", 1, 200, 200, []uint8{255}},
		{"a total above 255", 1, 255, 255, []uint8{255, 1}},
		{"R 0", 1, 0, 3, []uint8{1, 1, 1}},
		{"W 0", 1, 3, 0, []uint8{1, 1, 1}},
		{"R above the total", 1, 4, 2, []uint8{1, 1, 1}},
		{"W above the total", 1, 2, 4, []uint8{1, 1, 1}},
		{"R and W no more than the total", 1, 1, 2, []uint8{1, 1, 1}},
		{"twice W no more than the total", 1, 4, 2, []uint8{1, 1, 1, 1}},
		{"twice W less than the total", 1, 3, 1, []uint8{1, 1, 1}},
		{"nine votes", 1, 5, 5, []uint8{1, 1, 1, 1, 1, 1, 1, 1, 1}},
		{"nine votes, whose ninth is 0", 1, 5, 5, []uint8{1, 1, 1, 1, 1, 1, 1, 1, 0}},
		{"nine votes, that have just a ninth one", 1, 1, 1, []uint8{0, 0, 0, 0, 0, 0, 0, 0, 1}},
		{"256 votes", 1, 5, 5, slices.Repeat([]uint8{1}, 256)},
		{"264 votes", 1, 5, 5, slices.Repeat([]uint8{1}, 264)},
	} {
		if c, why := votes.Make(x.epoch, x.r, x.w, x.each...); c != (api.Config{}) || why != api.ErrVotes {
			t.Error(x.what, c, why)
		}
	}
}

func TestMakeLeavesItsArgumentAlone(t *testing.T) {
	each := []uint8{1, 2, 3, 4, 5, 6, 7, 8, 9}
	c, why := votes.Make(1, 1, 6, each[:3]...)
	each[0], each[2] = 14, 14
	if c != made(1, 1, 6, 1, 2, 3) || why != api.OK {
		t.Error(c, why)
	}
	if !slices.Equal(each, []uint8{14, 2, 14, 4, 5, 6, 7, 8, 9}) {
		t.Error(each)
	}
}

func TestMayAtAllVotesAsked(t *testing.T) {
	for _, each := range shares() {
		for both := range 1 << 16 {
			c := made(1, uint8(both), uint8(both>>8), each...)
			want := may(c)
			if votes.May(c) != want {
				t.Fatal(c, want)
			}
			got, why := votes.Make(1, c.R, c.W, each...)
			if want && (got != c || why != api.OK) || !want && (got != (api.Config{}) || why != api.ErrVotes) {
				t.Fatal(c, got, why)
			}
		}
	}
}

func TestMayOfEpochs(t *testing.T) {
	for epoch, want := range map[uint32]bool{0: false, 1: true, 2: true, most - 1: true, most: true, most + 1: false, math.MaxUint32: false} {
		if got := votes.May(made(epoch, 2, 2, 1, 1, 1)); got != want {
			t.Error(epoch, got)
		}
	}
	if votes.May(api.Config{}) {
		t.Error("one that is zero may be")
	}
}

func TestMayOfEachNodesVotes(t *testing.T) {
	for n := range nodes {
		for v := range 256 {
			c := api.Config{Epoch: 1, R: uint8(v), W: uint8(v)}
			c.Votes[n] = uint8(v)
			if got := votes.May(c); got != (v >= 1 && v <= mostVotes) {
				t.Error(n, v, got)
			}
		}
	}
}

func TestTotalAndVoters(t *testing.T) {
	for _, x := range []struct {
		each   []uint8
		total  int
		voters uint64
	}{
		{nil, 0, 0}, {[]uint8{1}, 1, 1}, {[]uint8{0, 0, 0, 0, 0, 0, 0, 1}, 1, 128}, {[]uint8{1, 0, 1}, 2, 5}, {[]uint8{0, 3, 0, 2, 1}, 6, 0b11010},
		{[]uint8{15, 15, 15, 15, 15, 15, 15, 15}, 120, 255}, {[]uint8{255, 1}, 256, 3}, {slices.Repeat([]uint8{255}, nodes), 2040, 255},
	} {
		c := made(0, 0, 0, x.each...)
		if votes.Total(c) != x.total || votes.Voters(c) != x.voters {
			t.Error(x, votes.Total(c), votes.Voters(c))
		}
	}
	for _, c := range all() {
		if votes.Total(c) != count(c, math.MaxUint64) {
			t.Error(c, votes.Total(c))
		}
		for n := range 64 {
			if is := votes.Voters(c)>>n&1 == 1; is != ofVoters(c, 1<<n) {
				t.Error(c, n, is)
			}
		}
	}
}

func TestOf(t *testing.T) {
	x := chance(1)
	for _, c := range all() {
		for set := range uint64(sets) {
			far := x.below(1<<53) << nodes
			if got := votes.Of(c, set); got != count(c, set) || votes.Of(c, set|far) != got {
				t.Fatal(c, set, far, got)
			}
		}
	}
	full := made(0, 0, 0, slices.Repeat([]uint8{255}, nodes)...)
	for set, want := range map[uint64]int{0: 0, 1: 255, 128: 255, 255: 2040, 256: 0, 1 << 63: 0, math.MaxUint64: 2040, math.MaxUint64 - 1: 1785, math.MaxUint64 - 255: 0} {
		if got := votes.Of(full, set); got != want {
			t.Error(set, got)
		}
	}
}

func TestReadsAndWrites(t *testing.T) {
	c := made(1, 2, 4, 3, 1, 1)
	for set, want := range [][2]bool{{false, false}, {true, false}, {false, false}, {true, true}, {false, false}, {true, true}, {true, false}, {true, true}} {
		if votes.Reads(c, uint64(set)) != want[0] || votes.Writes(c, uint64(set)) != want[1] {
			t.Error(set, votes.Reads(c, uint64(set)), votes.Writes(c, uint64(set)))
		}
	}
	for _, c := range all() {
		for _, asked := range [][2]uint8{{0, 0}, {0, 1}, {1, 0}, {1, 255}, {255, 1}, {3, 2}, {7, 9}} {
			c.R, c.W = asked[0], asked[1]
			for set := range uint64(2 * sets) {
				if votes.Reads(c, set) != (count(c, set) >= int(c.R)) || votes.Writes(c, set) != (count(c, set) >= int(c.W)) {
					t.Fatal(c, set, votes.Reads(c, set), votes.Writes(c, set))
				}
			}
		}
	}
}

func TestReadsAndWritesWithVotesAboveAByte(t *testing.T) {
	c := made(1, 255, 254, 200, 56)
	if !votes.Reads(c, 3) || !votes.Writes(c, 3) || votes.Reads(c, 1) || votes.Writes(c, 2) {
		t.Error("256 votes are no 0")
	}
}

// P6.2

// quorums are all quorums, as the chapter says the word: of each set's parts, all of them.
func quorums(c api.Config, want int) []uint64 {
	var out []uint64
	for set := range uint64(sets) {
		if !ofVoters(c, set) || count(c, set) < want {
			continue
		}
		has := false
		for part := range set {
			has = has || part&^set == 0 && count(c, part) >= want
		}
		if !has {
			out = append(out, set)
		}
	}
	return out
}

func TestQuorums(t *testing.T) {
	for _, x := range []struct {
		c    api.Config
		want int
		sets []uint64
	}{
		{made(1, 1, 1, 1), 1, []uint64{1}},
		{made(1, 1, 1, 1), 2, nil},
		{made(1, 1, 1, 1), 0, []uint64{0}},
		{made(1, 1, 1, 1), -1, []uint64{0}},
		{made(1, 1, 1, 1, 1), math.MinInt, []uint64{0}},
		{made(1, 1, 1, 1, 1), math.MaxInt, nil},
		{api.Config{}, 0, []uint64{0}},
		{api.Config{}, 1, nil},
		{made(1, 2, 3, 2, 1, 1), 1, []uint64{1, 2, 4}},
		{made(1, 2, 3, 2, 1, 1), 2, []uint64{1, 6}},
		{made(1, 2, 3, 2, 1, 1), 3, []uint64{3, 5}},
		{made(1, 2, 3, 2, 1, 1), 4, []uint64{7}},
		{made(1, 2, 3, 0, 2, 0, 1, 1), 2, []uint64{0b00010, 0b11000}},
		{made(1, 1, 1, 255, 1, 254), 255, []uint64{1, 6}},
		{made(1, 1, 1, 255, 1, 254), 256, []uint64{3, 5}},
	} {
		if got := votes.Quorums(x.c, x.want); !slices.Equal(got, x.sets) {
			t.Error(x, got)
		}
	}
}

func TestQuorumsAreAllOfThemRising(t *testing.T) {
	for _, c := range all() {
		for _, want := range wants(votes.Total(c)) {
			got := votes.Quorums(c, want)
			if !slices.Equal(got, quorums(c, want)) || !slices.IsSorted(got) {
				t.Fatal(c, want, got)
			}
		}
	}
}

func TestQuorumsAreTheCallers(t *testing.T) {
	c := made(1, 2, 2, 1, 1, 1)
	votes.Quorums(c, 2)[0] = 99
	if got := votes.Quorums(c, 2); !slices.Equal(got, []uint64{3, 5, 6}) {
		t.Error(got)
	}
}

// least is Least's answer, by its words: the fewest nodes, and of these sets the lowest number.
func least(c api.Config, want int, from uint64) (uint64, bool) {
	for nodesIn := range nodes + 1 {
		for set := range uint64(sets) {
			if size(set) == nodesIn && set&^from == 0 && ofVoters(c, set) && count(c, set) >= want {
				return set, true
			}
		}
	}
	return 0, false
}

func TestLeast(t *testing.T) {
	c := made(1, 3, 4, 1, 1, 3, 1, 0, 1)
	for _, x := range []struct {
		want int
		from uint64
		set  uint64
		is   bool
	}{
		{0, 0, 0, true}, {0, 255, 0, true}, {-1, 255, 0, true}, {math.MinInt, 0, 0, true},
		{1, 0, 0, false}, {1, 255, 1, true}, {1, 0b101100, 0b100, true}, {1, 0b101000, 0b1000, true},
		{2, 255, 0b100, true}, {2, 0b101011, 0b11, true}, {2, 0b101010, 0b1010, true}, {3, 255, 0b100, true}, {3, 0b101011, 0b1011, true},
		{4, 255, 0b101, true}, {4, 0b101110, 0b110, true}, {4, 0b101011, 0b101011, true}, {5, 0b101011, 0, false},
		{7, 255, 0b101111, true}, {8, 255, 0, false}, {math.MaxInt, math.MaxUint64, 0, false},
		{1, 0b10000, 0, false}, {1, 0b11010000, 0, false}, {1, math.MaxUint64 - 255, 0, false}, {7, math.MaxUint64, 0b101111, true}, {7, math.MaxUint64 - 1, 0, false},
	} {
		if set, is := votes.Least(c, x.want, x.from); set != x.set || is != x.is {
			t.Error(x, set, is)
		}
	}
}

func TestLeastOfAllSets(t *testing.T) {
	x := chance(77)
	for _, c := range all() {
		total := votes.Total(c)
		for from := range uint64(sets) {
			far := x.below(1<<53) << nodes
			for _, want := range []int{math.MinInt, 0, 1, int(x.below(uint64(total + 1))), total / 2, total/2 + 1, total, total + 1, math.MaxInt} {
				set, is := least(c, want, from)
				if gotSet, got := votes.Least(c, want, from|far); gotSet != set || got != is {
					t.Fatal(c, want, from, far, gotSet, got)
				}
			}
		}
	}
}

// P6.3

func TestAfter(t *testing.T) {
	good := func(epoch uint32) api.Config { return made(epoch, 2, 2, 1, 1, 1) }
	bad := func(epoch uint32) api.Config { return made(epoch, 1, 1, 1, 1, 1) }
	for _, x := range []struct {
		old, young api.Config
		want       api.Errno
	}{
		{good(1), good(2), api.OK},
		{good(1), made(2, 1, 15, 15), api.OK},
		{api.Config{}, good(1), api.OK},
		{bad(1), good(2), api.OK},
		{good(most - 1), good(most), api.OK},
		{good(most), good(most), api.ErrMax},
		{good(most), good(1), api.ErrMax},
		{good(most), good(most + 1), api.ErrMax},
		{good(most), bad(most + 1), api.ErrMax},
		{bad(most + 1), good(most), api.ErrMax},
		{bad(math.MaxUint32), good(0), api.ErrMax},
		{api.Config{Epoch: math.MaxUint32}, api.Config{}, api.ErrMax},
		{good(1), good(1), api.ErrOld},
		{good(1), good(3), api.ErrOld},
		{good(2), good(1), api.ErrOld},
		{good(1), good(0), api.ErrOld},
		{good(1), bad(3), api.ErrOld},
		{good(1), api.Config{}, api.ErrOld},
		{api.Config{}, api.Config{}, api.ErrOld},
		{good(most - 1), good(most - 1), api.ErrOld},
		{good(most - 2), good(most), api.ErrOld},
		{good(most - 1), good(most + 1), api.ErrOld},
		{good(1), good(2 + 1<<16), api.ErrOld},
		{good(1), bad(2), api.ErrVotes},
		{good(1), api.Config{Epoch: 2}, api.ErrVotes},
		{good(1), made(2, 16, 16, 16), api.ErrVotes},
		{good(most - 1), bad(most), api.ErrVotes},
		{api.Config{}, bad(1), api.ErrVotes},
	} {
		if got := votes.After(x.old, x.young); got != x.want {
			t.Error(x, got)
		}
	}
}

// P6.4

func put(c api.Config) []byte {
	var w code.Writer
	votes.Put(&w, c)
	return w.Bytes()
}

func TestPut(t *testing.T) {
	for _, x := range []struct {
		c    api.Config
		want []byte
	}{
		{api.Config{}, make([]byte, 11)},
		{made(1, 2, 3, 1, 1, 1), []byte{1, 2, 3, 1, 1, 1, 0, 0, 0, 0, 0}},
		{made(300, 127, 128, 1, 2, 3, 4, 5, 6, 7, 8), []byte{0xAC, 2, 127, 0x80, 1, 1, 2, 3, 4, 5, 6, 7, 8}},
		{made(most, 255, 255, 255, 128), []byte{0xFF, 0xFF, 0xFF, 0xFF, 7, 0xFF, 1, 0xFF, 1, 255, 128, 0, 0, 0, 0, 0, 0}},
		{made(math.MaxUint32, 0, 1, 0, 9), []byte{0xFF, 0xFF, 0xFF, 0xFF, 15, 0, 1, 0, 9, 0, 0, 0, 0, 0, 0}},
	} {
		if got := put(x.c); !bytes.Equal(got, x.want) {
			t.Errorf("%v: % X", x.c, got)
		}
	}
}

func TestPutGoesBehind(t *testing.T) {
	var w code.Writer
	w.Text("ab")
	votes.Put(&w, made(5, 6, 7, 8))
	votes.Put(&w, made(9, 10, 11, 12))
	if got := w.Bytes(); !bytes.Equal(got, []byte{2, 'a', 'b', 5, 6, 7, 8, 0, 0, 0, 0, 0, 0, 0, 9, 10, 11, 12, 0, 0, 0, 0, 0, 0, 0}) {
		t.Errorf("% X", got)
	}
	votes.Put(nil, made(1, 1, 1, 1))
}

func TestGet(t *testing.T) {
	r := code.New([]byte{0xAC, 2, 127, 0x80, 1, 1, 2, 3, 4, 5, 6, 7, 8, 77})
	if c := votes.Get(r); c != made(300, 127, 128, 1, 2, 3, 4, 5, 6, 7, 8) {
		t.Error(c)
	}
	if r.Left() != 1 || r.Byte() != 77 || r.End() != (api.Fault{}) {
		t.Error(r.Left(), r.Fault())
	}
}

func TestGetWithFaults(t *testing.T) {
	tail := []byte{1, 1, 1, 0, 0, 0, 0, 0}
	for _, x := range []struct {
		what string
		b    []byte
		want api.Fault
	}{
		{"nothing", nil, api.Fault{Why: api.ErrEnd}},
		{"an epoch above the greatest", append([]byte{0x80, 0x80, 0x80, 0x80, 8, 2, 2}, tail...), api.Fault{Why: api.ErrMany}},
		{"an epoch of 2^32 and 1", append([]byte{0x81, 0x80, 0x80, 0x80, 16, 2, 2}, tail...), api.Fault{Why: api.ErrMany}},
		{"an epoch that is no short number", append([]byte{0x81, 0, 2, 2}, tail...), api.Fault{Why: api.ErrForm}},
		{"R 256", append([]byte{1, 0x80, 2, 2}, tail...), api.Fault{Why: api.ErrMany, At: 1}},
		{"R 258", append([]byte{1, 0x82, 2, 2}, tail...), api.Fault{Why: api.ErrMany, At: 1}},
		{"R that is no short number", append([]byte{1, 0x82, 0, 2}, tail...), api.Fault{Why: api.ErrForm, At: 1}},
		{"W 256", append([]byte{1, 2, 0x80, 2}, tail...), api.Fault{Why: api.ErrMany, At: 2}},
		{"W 258", append([]byte{1, 2, 0x82, 2}, tail...), api.Fault{Why: api.ErrMany, At: 2}},
		{"W that is no short number", append([]byte{1, 2, 0x82, 0}, tail...), api.Fault{Why: api.ErrForm, At: 2}},
		{"seven nodes", append([]byte{1, 2, 2}, tail[:7]...), api.Fault{Why: api.ErrEnd, At: 10}},
	} {
		r := code.New(x.b)
		if c := votes.Get(r); c != (api.Config{}) || r.Fault() != x.want || r.Left() != 0 {
			t.Error(x.what, c, r.Fault(), r.Left())
		}
	}
}

func TestGetOfEachCut(t *testing.T) {
	whole := put(made(most, 255, 254, 255, 254, 253, 252, 251, 250, 249, 248))
	for n := range whole {
		r := code.New(whole[:n])
		if c := votes.Get(r); c != (api.Config{}) || r.Fault().Why != api.ErrEnd {
			t.Error(n, c, r.Fault())
		}
	}
}

func TestGetBehindAFault(t *testing.T) {
	b := append([]byte{2}, put(made(1, 2, 2, 1, 1, 1))...)
	r := code.New(b)
	r.Bool()
	if c := votes.Get(r); c != (api.Config{}) || r.Fault() != (api.Fault{Why: api.ErrForm}) {
		t.Error(c, r.Fault())
	}
	if c := votes.Get(nil); c != (api.Config{}) {
		t.Error(c)
	}
}

// P6.5

func TestThoseThatMatterHaveANodeInCommon(t *testing.T) {
	for _, c := range lawful(t) {
		var read, write []uint64
		for set := range uint64(sets) {
			if votes.Reads(c, set) {
				read = append(read, set)
			}
			if votes.Writes(c, set) {
				write = append(write, set)
			}
		}
		if len(read) == 0 || len(write) == 0 {
			t.Error(c, "nobody reads or writes")
		}
		for _, one := range write {
			for _, other := range slices.Concat(read, write) {
				if one&other == 0 {
					t.Fatal(c, one, other)
				}
			}
		}
	}
}

// P6.6

func TestASetHasVotesJustIfAQuorumIsAPartOfIt(t *testing.T) {
	x := chance(5)
	for _, c := range all() {
		for _, want := range wants(votes.Total(c)) {
			list := votes.Quorums(c, want)
			for set := range uint64(sets) {
				set |= x.below(1<<53) << nodes
				part := slices.ContainsFunc(list, func(q uint64) bool { return q&^set == 0 })
				if part != (votes.Of(c, set) >= want) {
					t.Fatal(c, want, set, list)
				}
				if _, is := votes.Least(c, want, set); is != part {
					t.Fatal(c, want, set, is)
				}
			}
		}
	}
}

// P6.7

func TestAllVotersReadAndWrite(t *testing.T) {
	for _, c := range lawful(t) {
		for _, set := range []uint64{votes.Voters(c), 255, math.MaxUint64} {
			if !votes.Reads(c, set) || !votes.Writes(c, set) {
				t.Error(c, set)
			}
		}
	}
}

// P6.8

func TestWhatIsPutIsGot(t *testing.T) {
	list := append(all(), lawful(t)...)
	for _, epoch := range []uint32{0, 1, 127, 128, 16383, 16384, most - 1, most} {
		for asked := range 256 {
			list = append(list, made(epoch, uint8(asked), uint8(255-asked), uint8(asked), 0, 255, uint8(asked)))
		}
	}
	var w code.Writer
	for _, c := range list {
		votes.Put(&w, c)
	}
	r := code.New(w.Bytes())
	for _, c := range list {
		if got := votes.Get(r); got != c {
			t.Fatal(c, got, r.Fault())
		}
	}
	if r.End() != (api.Fault{}) {
		t.Error(r.End())
	}
}

func TestWhatIsGotIsPutAsTheSameBytes(t *testing.T) {
	x := chance(9)
	got := 0
	for range 20000 {
		b := make([]byte, 11+x.below(4))
		for i := range b {
			b[i] = byte(x.below(256)) & byte(x.below(256))
		}
		r := code.New(b)
		c := votes.Get(r)
		if r.Fault().Why != api.OK {
			continue
		}
		got++
		if !bytes.Equal(put(c), b[:len(b)-r.Left()]) {
			t.Fatalf("% X: %v", b, c)
		}
	}
	if got < 1000 {
		t.Error(got, "of 20000 were read")
	}
}
