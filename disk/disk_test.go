package disk_test

import (
	"math"
	"testing"

	"parrel/api"
	"parrel/disk"
)

// mostRoom is the greatest room, as the document tells it.
const mostRoom = 1 << 16

// fresh is a disk of some room.
func fresh(t *testing.T, room int) *disk.Disk {
	t.Helper()
	d, why := disk.New(room)
	if d == nil || why != api.OK {
		t.Fatalf("New(%d): %v, %v", room, d, why)
	}
	return d
}

// appended appends a text, which must begin at a place.
func appended(t *testing.T, d *disk.Disk, s string, at int) {
	t.Helper()
	if got, why := d.Append([]byte(s)); got != at || why != api.OK {
		t.Fatalf("Append(%q): %d, %v; want %d, %v", s, got, why, at, api.OK)
	}
}

// must is an error that has to be that one.
func must(t *testing.T, what string, got, want api.Errno) {
	t.Helper()
	if got != want {
		t.Fatalf("%s: %v; want %v", what, got, want)
	}
}

// again turns the power off and on.
func again(t *testing.T, d *disk.Disk, keep int, cut bool, tail []byte) {
	t.Helper()
	must(t, "Fail", d.Fail(), api.OK)
	must(t, "Start", d.Start(keep, cut, tail), api.OK)
}

// look is all that can be told of a disk.
type look struct {
	text        string
	why         api.Errno
	base, end   int
	first, sure int
	left, room  int
	on          bool
}

func seen(d *disk.Disk) look {
	b, why := d.Read()
	first, sure := d.Forced()
	return look{string(b), why, d.Base(), d.End(), first, sure, d.Left(), d.Room(), d.On()}
}

// has tells of a disk with the power on that has other bytes or places than those.
func has(t *testing.T, d *disk.Disk, text string, base, first, sure int) {
	t.Helper()
	end := base + len(text)
	want := look{text, api.OK, base, end, first, sure, d.Room() - (end - first), d.Room(), true}
	if got := seen(d); got != want {
		t.Fatalf("it is %+v; want %+v", got, want)
	}
}

// P7.1

func TestNew(t *testing.T) {
	for _, room := range []int{math.MinInt, -mostRoom, -1, 0, mostRoom + 1, 1 << 31, math.MaxInt} {
		if d, why := disk.New(room); d != nil || why != api.ErrArg {
			t.Errorf("New(%d): %v, %v", room, d, why)
		}
	}
	for _, room := range []int{1, 2, 100, mostRoom - 1, mostRoom} {
		d := fresh(t, room)
		has(t, d, "", 0, 0, 0)
		if d.Room() != room || d.Left() != room {
			t.Errorf("New(%d): room %d, left %d", room, d.Room(), d.Left())
		}
		for range 100 {
			must(t, "Force without a fuse", d.Force(), api.OK)
		}
	}
}

func TestDisksAreApart(t *testing.T) {
	a, b := fresh(t, 9), fresh(t, 9)
	appended(t, a, "ab", 0)
	a.Force()
	b.Fail()
	has(t, a, "ab", 0, 0, 2)
	b.Start(0, false, nil)
	has(t, b, "", 0, 0, 0)
}

func TestAppend(t *testing.T) {
	d := fresh(t, 6)
	appended(t, d, "ab", 0)
	appended(t, d, "", 2)
	appended(t, d, "c", 2)
	has(t, d, "abc", 0, 0, 0)
	if at, why := d.Append([]byte("defg")); at != 0 || why != api.ErrFull {
		t.Fatal(at, why)
	}
	has(t, d, "abc", 0, 0, 0)
	appended(t, d, "def", 3)
	appended(t, d, "", 6)
	if at, why := d.Append([]byte("g")); at != 0 || why != api.ErrFull {
		t.Fatal(at, why)
	}
	if at, why := d.Append(nil); at != 6 || why != api.OK {
		t.Fatal(at, why)
	}
	has(t, d, "abcdef", 0, 0, 0)
}

func TestAppendToTheGreatestRoom(t *testing.T) {
	d := fresh(t, mostRoom)
	if _, why := d.Append(make([]byte, mostRoom+1)); why != api.ErrFull {
		t.Fatal(why)
	}
	if at, why := d.Append(make([]byte, mostRoom)); at != 0 || why != api.OK {
		t.Fatal(at, why)
	}
	if d.Left() != 0 || d.End() != mostRoom {
		t.Fatal(d.Left(), d.End())
	}
}

// Room comes with the forced base, not with the base, and not with the forced end.
func TestFullByTheForcedBase(t *testing.T) {
	d := fresh(t, 4)
	appended(t, d, "abcd", 0)
	must(t, "Force", d.Force(), api.OK)
	has(t, d, "abcd", 0, 0, 4)
	must(t, "Cut", d.Cut(3), api.OK)
	has(t, d, "d", 3, 0, 4)
	if _, why := d.Append([]byte("e")); why != api.ErrFull {
		t.Fatal(why)
	}
	must(t, "Force", d.Force(), api.OK)
	has(t, d, "d", 3, 3, 4)
	if _, why := d.Append([]byte("efgh")); why != api.ErrFull {
		t.Fatal(why)
	}
	appended(t, d, "efg", 4)
	has(t, d, "defg", 3, 3, 4)
	must(t, "Trim", d.Trim(5), api.OK)
	has(t, d, "de", 3, 3, 4)
	appended(t, d, "xy", 5)
	has(t, d, "dexy", 3, 3, 4)
}

func TestForceWithAFuse(t *testing.T) {
	for fuse := range 4 {
		d := fresh(t, 50)
		d.Arm(fuse)
		for n := range fuse {
			appended(t, d, "a", n)
			must(t, "Force", d.Force(), api.OK)
			if first, sure := d.Forced(); first != 0 || sure != n+1 {
				t.Fatal(first, sure)
			}
		}
		appended(t, d, "bcd", fuse)
		must(t, "Cut", d.Cut(fuse), api.OK)
		must(t, "the next Force", d.Force(), api.ErrDown)
		if got, want := seen(d), (look{"", api.ErrDown, fuse, fuse + 3, 0, fuse, 47 - fuse, 50, false}); got != want {
			t.Fatalf("%+v; want %+v", got, want)
		}
		must(t, "a Force without power", d.Force(), api.ErrDown)
		must(t, "Start", d.Start(1, false, nil), api.OK)
		has(t, d, "aaa"[:fuse]+"b", 0, 0, fuse+1)
		must(t, "a Force behind it", d.Force(), api.OK)
	}
}

func TestCut(t *testing.T) {
	d := fresh(t, 9)
	must(t, "Cut of nothing", d.Cut(0), api.OK)
	must(t, "Cut behind nothing", d.Cut(1), api.ErrArg)
	appended(t, d, "abcd", 0)
	for _, to := range []int{math.MinInt, -1, 5, math.MaxInt} {
		must(t, "Cut", d.Cut(to), api.ErrArg)
	}
	has(t, d, "abcd", 0, 0, 0)
	must(t, "Cut", d.Cut(2), api.OK)
	has(t, d, "cd", 2, 0, 0)
	must(t, "Cut ahead of the base", d.Cut(1), api.ErrArg)
	must(t, "Cut to the base", d.Cut(2), api.OK)
	has(t, d, "cd", 2, 0, 0)
	must(t, "Cut to the end", d.Cut(4), api.OK)
	has(t, d, "", 4, 0, 0)
	appended(t, d, "ef", 4)
	has(t, d, "ef", 4, 0, 0)
	must(t, "Force", d.Force(), api.OK)
	has(t, d, "ef", 4, 4, 6)
}

func TestTrim(t *testing.T) {
	d := fresh(t, 9)
	must(t, "Trim of nothing", d.Trim(0), api.OK)
	must(t, "Trim behind nothing", d.Trim(1), api.ErrArg)
	appended(t, d, "abcd", 0)
	must(t, "Force", d.Force(), api.OK)
	appended(t, d, "ef", 4)
	must(t, "Cut", d.Cut(1), api.OK)
	for _, to := range []int{math.MinInt, -1, 0, 7, math.MaxInt} {
		must(t, "Trim", d.Trim(to), api.ErrArg)
	}
	has(t, d, "bcdef", 1, 0, 4)
	must(t, "Trim to the end", d.Trim(6), api.OK)
	has(t, d, "bcdef", 1, 0, 4)
	must(t, "Trim of what is not forced", d.Trim(5), api.OK)
	has(t, d, "bcde", 1, 0, 4)
	must(t, "Trim of what is forced", d.Trim(2), api.OK)
	has(t, d, "b", 1, 0, 2)
	appended(t, d, "x", 2)
	has(t, d, "bx", 1, 0, 2)
	must(t, "Trim to the base", d.Trim(1), api.OK)
	has(t, d, "", 1, 0, 1)
}

// What was trimmed does not come again, forced or not.
func TestTrimStays(t *testing.T) {
	d := fresh(t, 9)
	appended(t, d, "abcd", 0)
	must(t, "Force", d.Force(), api.OK)
	appended(t, d, "ef", 4)
	must(t, "Trim", d.Trim(3), api.OK)
	again(t, d, 9, false, nil)
	has(t, d, "abc", 0, 0, 3)

	appended(t, d, "xyz", 3)
	must(t, "Trim", d.Trim(5), api.OK)
	again(t, d, 9, false, nil)
	has(t, d, "abcxy", 0, 0, 5)
}

func TestNothingWithoutPower(t *testing.T) {
	d := fresh(t, 4)
	appended(t, d, "ab", 0)
	must(t, "Force", d.Force(), api.OK)
	appended(t, d, "c", 2)
	must(t, "Cut", d.Cut(1), api.OK)
	must(t, "Fail", d.Fail(), api.OK)
	was := seen(d)
	for _, s := range []string{"", "x", "too long for it"} {
		if at, why := d.Append([]byte(s)); at != 0 || why != api.ErrDown {
			t.Errorf("Append(%q): %d, %v", s, at, why)
		}
	}
	for _, to := range []int{-1, 0, 1, 2, 3, 4} {
		must(t, "Cut", d.Cut(to), api.ErrDown)
		must(t, "Trim", d.Trim(to), api.ErrDown)
	}
	must(t, "Force", d.Force(), api.ErrDown)
	if b, why := d.Read(); len(b) != 0 || why != api.ErrDown {
		t.Errorf("Read: %q, %v", b, why)
	}
	if got := seen(d); got != was {
		t.Errorf("%+v was %+v", got, was)
	}
	must(t, "Start", d.Start(9, true, nil), api.OK)
	has(t, d, "bc", 1, 1, 3)
}

// What was handed in and what was answered may be written into.
func TestListsAreTheCallers(t *testing.T) {
	d := fresh(t, 20)
	given := append(make([]byte, 0, 20), "abc"...)
	d.Append(given)
	copy(given, "xyz")
	_ = append(given, "uvw"...)
	has(t, d, "abc", 0, 0, 0)
	if string(given) != "xyz" {
		t.Fatalf("%q", given)
	}

	one, _ := d.Read()
	two, _ := d.Read()
	copy(one, "???")
	_ = append(one, "!!!"...)
	if string(two) != "abc" {
		t.Fatalf("%q", two)
	}
	appended(t, d, "de", 3)
	has(t, d, "abcde", 0, 0, 0)
	if string(one) != "???" || string(two) != "abc" {
		t.Fatalf("%q, %q", one, two)
	}

	must(t, "Fail", d.Fail(), api.OK)
	tail := []byte("tail")
	must(t, "Start", d.Start(0, false, tail), api.OK)
	copy(tail, "????")
	has(t, d, "tail", 0, 0, 4)
	three, _ := d.Read()
	must(t, "Trim", d.Trim(2), api.OK)
	appended(t, d, "XY", 2)
	if string(three) != "tail" {
		t.Fatalf("%q", three)
	}
}

// P7.2

func TestPlaces(t *testing.T) {
	d := fresh(t, 10)
	appended(t, d, "abcdef", 0)
	must(t, "Force", d.Force(), api.OK)
	must(t, "Cut", d.Cut(2), api.OK)
	must(t, "Force", d.Force(), api.OK)
	appended(t, d, "gh", 6)
	must(t, "Cut", d.Cut(3), api.OK)
	want := look{"defgh", api.OK, 3, 8, 2, 6, 4, 10, true}
	if got := seen(d); got != want {
		t.Fatalf("%+v; want %+v", got, want)
	}
	must(t, "Fail", d.Fail(), api.OK)
	want.text, want.why, want.on = "", api.ErrDown, false
	if got := seen(d); got != want {
		t.Fatalf("without power: %+v; want %+v", got, want)
	}
}

func TestArm(t *testing.T) {
	for _, none := range []int{-1, -2, math.MinInt} {
		d := fresh(t, 9)
		d.Arm(1)
		d.Arm(none)
		for range 50 {
			must(t, "Force", d.Force(), api.OK)
		}
	}

	d := fresh(t, 9)
	d.Arm(math.MaxInt)
	must(t, "Force", d.Force(), api.OK)
	d.Arm(0)
	if !d.On() {
		t.Error("a fuse of 0 turned the power off by itself")
	}
	d.Arm(1)
	must(t, "Force", d.Force(), api.OK)
	must(t, "Force", d.Force(), api.ErrDown)
	d.Arm(3)
	must(t, "Force without power", d.Force(), api.ErrDown)
	if d.On() {
		t.Error("Arm turned the power on")
	}
}

// A fuse hangs on Forces alone; a Start forces without it, and comes on without one.
func TestFuseCountsForces(t *testing.T) {
	d := fresh(t, 9)
	d.Arm(1)
	appended(t, d, "abc", 0)
	must(t, "Cut", d.Cut(1), api.OK)
	must(t, "Trim", d.Trim(2), api.OK)
	must(t, "Force", d.Force(), api.OK)
	has(t, d, "b", 1, 1, 2)
	must(t, "Force", d.Force(), api.ErrDown)

	for _, armed := range []int{0, 1} {
		d := fresh(t, 9)
		d.Arm(armed)
		must(t, "Fail", d.Fail(), api.OK)
		d.Arm(armed)
		must(t, "Start", d.Start(0, false, []byte("a")), api.OK)
		has(t, d, "a", 0, 0, 1)
		must(t, "Force", d.Force(), api.OK)
		must(t, "Force", d.Force(), api.OK)
	}
}

func TestFail(t *testing.T) {
	d := fresh(t, 9)
	must(t, "Fail", d.Fail(), api.OK)
	if d.On() {
		t.Error("it is on")
	}
	must(t, "Fail again", d.Fail(), api.ErrState)
	must(t, "Start", d.Start(0, false, nil), api.OK)
	if !d.On() {
		t.Error("it is off")
	}
	d.Arm(0)
	must(t, "Force", d.Force(), api.ErrDown)
	must(t, "Fail behind a fuse", d.Fail(), api.ErrState)
}

// P7.3

// failed is a disk of room 12 without power: `abcd` is forced, `efg` is not, the base is told, and not forced.
func failed(t *testing.T, base int) *disk.Disk {
	t.Helper()
	d := fresh(t, 12)
	appended(t, d, "-----abcd", 0)
	must(t, "Cut", d.Cut(5), api.OK)
	must(t, "Force", d.Force(), api.OK)
	appended(t, d, "efg", 9)
	must(t, "Cut", d.Cut(base), api.OK)
	must(t, "Fail", d.Fail(), api.OK)
	return d
}

func TestStart(t *testing.T) {
	const a = 5 // the place of `a`
	for _, c := range []struct {
		base int
		keep int
		cut  bool
		tail string
		want string
		at   int
	}{
		{a, 0, false, "", "abcd", a},
		{a, 1, false, "", "abcde", a},
		{a, 2, false, "", "abcdef", a},
		{a, 3, false, "", "abcdefg", a},
		{a, 4, false, "", "abcdefg", a},
		{a, math.MaxInt, false, "", "abcdefg", a},
		{a, -1, false, "", "abcd", a},
		{a, math.MinInt, false, "", "abcd", a},
		{a, 2, true, "", "abcdef", a},
		// A base within what is forced goes, or stays, as told.
		{a + 2, 1, false, "", "abcde", a},
		{a + 2, 1, true, "", "cde", a + 2},
		{a + 2, -1, true, "", "cd", a + 2},
		{a + 4, 0, true, "", "", a + 4},
		{a + 4, 0, false, "", "abcd", a},
		// A base behind the forced end stays, if so much is there.
		{a + 5, 0, true, "", "abcd", a},
		{a + 5, 1, true, "", "", a + 5},
		{a + 5, 2, true, "", "f", a + 5},
		{a + 5, 2, false, "", "abcdef", a},
		{a + 7, 2, true, "", "abcdef", a},
		{a + 7, 3, true, "", "", a + 7},
		{a + 7, 3, false, "", "abcdefg", a},
		// A tail stands there instead of all that was not forced.
		{a, 3, false, "x", "abcdx", a},
		{a, 0, false, "xyzuvwXY", "abcdxyzuvwXY", a},
		{a + 2, 3, true, "x", "cdx", a + 2},
		{a + 2, 3, false, "x", "abcdx", a},
		{a + 4, 0, true, "xy", "xy", a + 4},
		{a + 5, 0, true, "xy", "y", a + 5},
		{a + 6, 0, true, "xy", "", a + 6},
		{a + 7, 0, true, "xy", "abcdxy", a},
		{a + 7, 3, true, "xy", "abcdxy", a},
		{a + 7, 3, true, "xyzu", "u", a + 7},
	} {
		d := failed(t, c.base)
		tail := []byte(c.tail)
		if why := d.Start(c.keep, c.cut, tail); why != api.OK || string(tail) != c.tail {
			t.Errorf("%+v: %v, tail %q", c, why, tail)
			continue
		}
		has(t, d, c.want, c.at, c.at, c.at+len(c.want))
		// All that is there was forced: it is there behind the next loss too.
		again(t, d, 0, false, nil)
		has(t, d, c.want, c.at, c.at, c.at+len(c.want))
	}
}

func TestStartRefused(t *testing.T) {
	d := failed(t, 6)
	was := seen(d)
	for _, n := range []int{9, 10, 1000} {
		must(t, "Start", d.Start(1, true, make([]byte, n)), api.ErrFull)
		if got := seen(d); got != was {
			t.Fatalf("%+v was %+v", got, was)
		}
	}
	must(t, "Start", d.Start(1, false, make([]byte, 8)), api.OK)
	if d.Left() != 0 || !d.On() {
		t.Error(d.Left(), d.On())
	}

	d = fresh(t, 3)
	appended(t, d, "abc", 0)
	d.Arm(0)
	must(t, "Start with the power on", d.Start(0, false, nil), api.ErrState)
	must(t, "Start with the power on", d.Start(0, false, make([]byte, 9)), api.ErrState)
	has(t, d, "abc", 0, 0, 0)
	must(t, "Force", d.Force(), api.ErrDown)
}

// Behind a cut that is not forced there is only room for a tail from the forced base on.
func TestTailHasRoomByTheForcedBase(t *testing.T) {
	for cut := range 5 {
		d := fresh(t, 6)
		appended(t, d, "abcd", 0)
		must(t, "Force", d.Force(), api.OK)
		must(t, "Cut", d.Cut(cut), api.OK)
		must(t, "Fail", d.Fail(), api.OK)
		must(t, "Start", d.Start(0, true, []byte("xyz")), api.ErrFull)
		must(t, "Start", d.Start(0, true, []byte("xy")), api.OK)
		has(t, d, "abcdxy"[cut:], cut, cut, 6)
	}
}

func TestDisksThatNobodyMade(t *testing.T) {
	for _, d := range []*disk.Disk{nil, {}, new(disk.Disk)} {
		for range 2 {
			if at, why := d.Append([]byte("a")); at != 0 || why != api.ErrNil {
				t.Error(at, why)
			}
			must(t, "Force", d.Force(), api.ErrNil)
			must(t, "Cut", d.Cut(0), api.ErrNil)
			must(t, "Trim", d.Trim(0), api.ErrNil)
			must(t, "Fail", d.Fail(), api.ErrNil)
			must(t, "Start", d.Start(0, false, nil), api.ErrNil)
			must(t, "Start", d.Start(0, true, []byte("a")), api.ErrNil)
			d.Arm(0)
			if got, want := seen(d), (look{why: api.ErrNil}); got != want {
				t.Errorf("%+v; want %+v", got, want)
			}
		}
	}
}

// Example 1 of the chapter.
func TestExample(t *testing.T) {
	d := fresh(t, 100)
	appended(t, d, "ab", 0)
	must(t, "Force", d.Force(), api.OK)
	appended(t, d, "cd", 2)
	again(t, d, 1, false, nil)
	has(t, d, "abc", 0, 0, 3)
}

// chance is a row of numbers, the same each time.
type chance uint64

func (x *chance) below(n int) int {
	*x ^= *x << 13
	*x ^= *x >> 7
	*x ^= *x << 17
	return int(uint64(*x>>11) % uint64(n))
}

// text is some bytes, of which no two steps are likely to have the same.
func (x *chance) text(size int) []byte {
	b := make([]byte, size)
	for i := range b {
		b[i] = byte('!' + x.below(90))
	}
	return b
}

// cell is a byte of a model, that has all of them from the place 0 on, and tells of each what became of it.
type cell struct {
	value            byte
	forced           bool
	gone, goneAlways bool
}

// model is a disk told in another way.
type model struct {
	cells []cell
	room  int
	fuse  []bool // an element for each Force that is still done
	armed bool
	on    bool
}

// leading counts the first cells of which something holds.
func (m *model) leading(holds func(cell) bool) int {
	n := 0
	for n < len(m.cells) && holds(m.cells[n]) {
		n++
	}
	return n
}

func (m *model) base() int  { return m.leading(func(c cell) bool { return c.gone }) }
func (m *model) first() int { return m.leading(func(c cell) bool { return c.goneAlways }) }
func (m *model) sure() int  { return m.leading(func(c cell) bool { return c.forced }) }

func (m *model) seen() look {
	l := look{why: api.ErrDown, base: m.base(), end: len(m.cells), first: m.first(), sure: m.sure(), room: m.room, on: m.on}
	l.left = l.room - (l.end - l.first)
	if m.on {
		l.why = api.OK
		for _, c := range m.cells[l.base:] {
			l.text += string([]byte{c.value})
		}
	}
	return l
}

func (m *model) append(b []byte) (int, api.Errno) {
	if !m.on {
		return 0, api.ErrDown
	}
	if len(m.cells)+len(b)-m.first() > m.room {
		return 0, api.ErrFull
	}
	at := len(m.cells)
	for _, v := range b {
		m.cells = append(m.cells, cell{value: v})
	}
	return at, api.OK
}

func (m *model) settle() {
	for i := range m.cells {
		m.cells[i].forced = true
		m.cells[i].goneAlways = m.cells[i].gone
	}
}

func (m *model) force() api.Errno {
	if !m.on {
		return api.ErrDown
	}
	if m.armed {
		if len(m.fuse) == 0 {
			m.on = false
			return api.ErrDown
		}
		m.fuse = m.fuse[1:]
	}
	m.settle()
	return api.OK
}

func (m *model) may(to int) api.Errno {
	switch {
	case !m.on:
		return api.ErrDown
	case to < m.base() || to > len(m.cells):
		return api.ErrArg
	}
	return api.OK
}

func (m *model) cut(to int) api.Errno {
	why := m.may(to)
	for i := 0; why == api.OK && i < to; i++ {
		m.cells[i].gone = true
	}
	return why
}

func (m *model) trim(to int) api.Errno {
	why := m.may(to)
	if why == api.OK {
		m.cells = m.cells[:to]
	}
	return why
}

func (m *model) arm(forces int) {
	m.armed, m.fuse = forces >= 0, nil
	for range forces {
		m.fuse = append(m.fuse, true)
	}
}

func (m *model) fail() api.Errno {
	if !m.on {
		return api.ErrState
	}
	m.on = false
	return api.OK
}

func (m *model) start(keep int, cut bool, tail []byte) api.Errno {
	base, sure := m.base(), m.sure()
	switch {
	case m.on:
		return api.ErrState
	case sure-m.first()+len(tail) > m.room:
		return api.ErrFull
	}
	for len(m.cells) > sure && (len(tail) > 0 || keep < len(m.cells)-sure) {
		m.cells = m.cells[:len(m.cells)-1]
	}
	for _, v := range tail {
		m.cells = append(m.cells, cell{value: v})
	}
	for i, c := range m.cells {
		m.cells[i].gone = c.goneAlways
		if cut && base <= len(m.cells) {
			m.cells[i].gone = i < base
		}
	}
	m.on, m.armed = true, false
	m.settle()
	return api.OK
}

// step does one thing, of any kind, to a disk and to its model, and tells both answers.
func step(x *chance, d *disk.Disk, m *model) (at, wantAt int, why, want api.Errno) {
	end := len(m.cells)
	near := m.base() - 1 + x.below(end-m.base()+3)
	switch x.below(12) {
	case 0, 1, 2:
		b := x.text(x.below(m.room/3 + 3))
		at, why = d.Append(b)
		wantAt, want = m.append(b)
	case 3, 4:
		why, want = d.Force(), m.force()
	case 5, 6:
		why, want = d.Cut(near), m.cut(near)
	case 7:
		why, want = d.Trim(near), m.trim(near)
	case 8:
		forces := x.below(5) - 2
		d.Arm(forces)
		m.arm(forces)
	case 9:
		why, want = d.Fail(), m.fail()
	default:
		keep, cut := x.below(end-m.sure()+4)-1, x.below(2) == 0
		var tail []byte
		if x.below(3) == 0 {
			tail = x.text(x.below(m.room + 2))
		}
		why, want = d.Start(keep, cut, tail), m.start(keep, cut, tail)
	}
	return at, wantAt, why, want
}

// The promises as a whole, against a model that keeps each byte by itself.
func TestAsTheModel(t *testing.T) {
	x := chance(0x9E3779B97F4A7C15)
	for round := range 400 {
		room := []int{1, 2, 3, 7, 20, 100}[round%6]
		d := fresh(t, room)
		m := &model{room: room, on: true}
		for n := range 120 {
			at, wantAt, why, want := step(&x, d, m)
			if at != wantAt || why != want {
				t.Fatalf("round %d, step %d: %d, %v; want %d, %v", round, n, at, why, wantAt, want)
			}
			if got, want := seen(d), m.seen(); got != want {
				t.Fatalf("round %d, step %d: %+v; want %+v", round, n, got, want)
			}
		}
	}
}

// busy is a disk behind some steps, all with the power on, and what was read of it as it was forced last.
func busy(t *testing.T, x *chance) (d *disk.Disk, forced string, at int) {
	t.Helper()
	d = fresh(t, 30)
	for range 20 {
		switch x.below(5) {
		case 0, 1:
			d.Append(x.text(x.below(6)))
		case 2:
			must(t, "Force", d.Force(), api.OK)
			b, _ := d.Read()
			forced, at = string(b), d.Base()
		case 3:
			d.Cut(d.Base() + x.below(3))
		case 4:
			to := d.End() - x.below(2)
			if d.Trim(to) == api.OK && to < at+len(forced) {
				forced = forced[:to-at]
			}
		}
	}
	return d, forced, at
}

// P7.4

func TestForcedStays(t *testing.T) {
	x := chance(88172645463325252)
	for range 3000 {
		d, forced, at := busy(t, &x)
		if first, sure := d.Forced(); first != at || sure != at+len(forced) {
			t.Fatalf("forced %d to %d; want %q at %d", first, sure, forced, at)
		}
		went := d.Base()
		again(t, d, x.below(9)-1, x.below(2) == 0, x.text(x.below(30-len(forced)+1)))
		b, why := d.Read()
		if why != api.OK {
			t.Fatal(why)
		}
		for i := range len(forced) {
			place := at + i
			if place < went {
				continue
			}
			if place < d.Base() || place >= d.End() || b[place-d.Base()] != forced[i] {
				t.Fatalf("the byte at %d, which was forced, is not there", place)
			}
		}
	}
}

// P7.5

func TestNothingComesByItself(t *testing.T) {
	x := chance(2463534242)
	for range 3000 {
		d, forced, at := busy(t, &x)
		b, _ := d.Read()
		was, base := string(b), d.Base()
		keep, cut := x.below(12)-2, x.below(2) == 0
		again(t, d, keep, cut, nil)
		got, why := d.Read()
		if why != api.OK || d.End() > base+len(was) {
			t.Fatalf("%v: it ends at %d, and ended at %d", why, d.End(), base+len(was))
		}
		for i, v := range got {
			place := d.Base() + i
			switch {
			case place >= base:
				if v != was[place-base] {
					t.Fatalf("the byte at %d is another one", place)
				}
			case place < at+len(forced):
				if v != forced[place-at] {
					t.Fatalf("the byte at %d, which was forced, is another one", place)
				}
			}
		}
	}
}

// P7.6

func TestErrorsTurnNothing(t *testing.T) {
	x := chance(362436069)
	for round := range 500 {
		d := fresh(t, 5+round%9)
		m := &model{room: d.Room(), on: true}
		for range 60 {
			was := seen(d)
			_, _, why, _ := step(&x, d, m)
			if why == api.OK {
				continue
			}
			got := seen(d)
			if was.on && !got.on && why == api.ErrDown {
				// The fuse: all but the power is as it was.
				got.on, got.text, got.why = true, was.text, was.why
			}
			if got != was {
				t.Fatalf("behind %v it is %+v, and was %+v", why, got, was)
			}
		}
	}
}

// A refused call takes nothing off a fuse.
func TestErrorsKeepTheFuse(t *testing.T) {
	d := fresh(t, 2)
	d.Arm(1)
	d.Append([]byte("abc"))
	d.Cut(9)
	d.Trim(-1)
	must(t, "Start", d.Start(0, false, nil), api.ErrState)
	must(t, "Force", d.Force(), api.OK)
	must(t, "Force", d.Force(), api.ErrDown)
}
