package wal_test

import (
	"bytes"
	"math"
	"slices"
	"testing"

	"parrel/api"
	"parrel/disk"
	"parrel/rec"
	"parrel/wal"
)

// Example 1 of the chapter.
func TestExample(t *testing.T) {
	d := newDisk(t, 200)
	l := has(t, d)
	must(t, "Append", l.Append(boot(1)), api.OK)
	must(t, "Force", l.Force(), api.OK)
	has(t, d, boot(1))
}

// P12.1

func TestOpenRefused(t *testing.T) {
	off := newDisk(t, 200)
	must(t, "Fail", off.Fail(), api.OK)
	for _, c := range []struct {
		d    *disk.Disk
		want api.Errno
	}{{nil, api.ErrNil}, {&disk.Disk{}, api.ErrNil}, {off, api.ErrDown}} {
		if l, recs, why := wal.Open(c.d); l != nil || len(recs) != 0 || why != c.want {
			t.Errorf("%v, %v, %v; want %v", l, recs, why, c.want)
		}
	}

	// A disk with bytes that would be trimmed is not, while the power is off.
	d, _ := logOf(t, 200, boot(1))
	d.Append([]byte("no frame"))
	must(t, "Fail", d.Fail(), api.OK)
	was := seen(d)
	if l, recs, why := wal.Open(d); l != nil || len(recs) != 0 || why != api.ErrDown {
		t.Error(l, recs, why)
	}
	stays(t, d, was)
}

// What is appended is frames of records, one behind the other, and opened as the same records.
func TestAppendAndOpen(t *testing.T) {
	d := newDisk(t, mostRoom)
	l := has(t, d)
	must(t, "Append of all", l.Append(all()...), api.OK)
	want := bytesOf(t, all()...)
	if b, _ := d.Read(); !bytes.Equal(b, want) {
		t.Fatalf("% X; want % X", b, want)
	}
	for _, r := range all() {
		must(t, "Append of one", l.Append(r), api.OK)
	}
	if b, _ := d.Read(); !bytes.Equal(b, append(slices.Clone(want), want...)) {
		t.Fatal("appended one by one it is not as appended at once")
	}
	must(t, "Append of none", l.Append(), api.OK)
	must(t, "Append of nil", l.Append([]rec.Rec(nil)...), api.OK)
	was := seen(d)
	has(t, d, append(all(), all()...)...)
	stays(t, d, was)
	if was.sure != 0 {
		t.Error("it forced by itself")
	}
}

// rests are bytes that no record's frame begins with.
func rests(t *testing.T) [][]byte {
	one := bytesOf(t, ended(9))
	var out [][]byte
	for n := 1; n < len(one); n++ {
		out = append(out, one[:n])
	}
	for n := range one {
		turned := slices.Clone(one)
		turned[n] ^= 0x10
		out = append(out, turned)
	}
	load, _ := rec.Encode(ended(9))
	for _, bad := range [][]byte{nil, {0}, {8}, {255, 1, 2, 3}, load[:3], append(slices.Clone(load), 0), {rec.Boot, 0}, make([]byte, 4096)} {
		out = append(out, framed(bad))
	}
	return append(out, []byte{0}, []byte("no frame"), slices.Repeat([]byte{0xA7}, 50))
}

// A log ends where no record's frame is: what is there goes for ever, with all that stands behind.
func TestOpenTrims(t *testing.T) {
	behind := [][]byte{nil, bytesOf(t, boot(5)), bytesOf(t, all()...)}
	for _, rest := range rests(t) {
		for _, more := range behind {
			for _, first := range [][]rec.Rec{nil, {boot(1)}, all()} {
				d, _ := logOf(t, mostRoom, first...)
				size := d.End()
				if _, why := d.Append(append(slices.Clone(rest), more...)); why != api.OK {
					t.Fatal(why)
				}
				must(t, "Force", d.Force(), api.OK)
				l := has(t, d, first...)
				if d.End() != size || l.Pending() != 0 {
					t.Fatalf("rest % X: the end is %d; want %d", rest, d.End(), size)
				}
				must(t, "Append", l.Append(ended(3)), api.OK)
				has(t, d, append(slices.Clone(first), ended(3))...)
				lose(t, d, 0, false)
				has(t, d, first...)
			}
		}
	}
}

// A log that has nothing but records is not trimmed, forced or not.
func TestOpenTurnsNoWholeLog(t *testing.T) {
	d, l := logOf(t, 400, boot(1), ended(1))
	must(t, "Append", l.Append(ended(2), ended(3)), api.OK)
	must(t, "Drop", l.Drop(l.Size(boot(1))), api.OK)
	was := seen(d)
	has(t, d, ended(1), ended(2), ended(3))
	stays(t, d, was)
	lose(t, d, 9999, false)
	has(t, d, boot(1), ended(1), ended(2), ended(3))
}

// The places of a disk whose beginning went are not those of its bytes.
func TestOpenFromTheBase(t *testing.T) {
	d, l := logOf(t, 400, boot(1), ended(1), ended(2))
	must(t, "Drop", l.Drop(l.Size(boot(1))), api.OK)
	must(t, "Force", l.Force(), api.OK)
	end := d.End()
	d.Append([]byte{0xA7, 0x5E, 0})
	has(t, d, ended(1), ended(2))
	if d.End() != end || d.Base() != l.Size(boot(1)) {
		t.Error(d.Base(), d.End(), end)
	}

	must(t, "Drop into a frame", l.Drop(1), api.OK)
	has(t, d)
	if d.End() != d.Base() {
		t.Error(d.Base(), d.End())
	}
}

// One that may not be is refused wherever it stands, ahead of all that the disk would refuse, and none of the others is appended.
func TestAppendOfWhatMayNotBe(t *testing.T) {
	for _, bad := range none() {
		for at := range 4 {
			recs := slices.Insert([]rec.Rec{boot(1), ended(1), ended(2)}, at, bad)
			for _, room := range []int{1000, 61} {
				d, l := logOf(t, room, boot(7), ended(7), ended(8), ended(9))
				was := seen(d)
				must(t, "Append", l.Append(recs...), api.ErrArg)
				must(t, "Again", l.Again(recs...), api.ErrArg)
				stays(t, d, was)
				must(t, "Fail", d.Fail(), api.OK)
				must(t, "Append without power", l.Append(recs...), api.ErrArg)
				must(t, "Again without power", l.Again(recs...), api.ErrArg)
			}
		}
	}
}

// All frames are appended at once, or none is.
func TestAppendWithoutRoom(t *testing.T) {
	recs := []rec.Rec{boot(1), ended(1), ended(2)}
	size := len(bytesOf(t, recs...))
	for room := 1; room < size; room++ {
		d := newDisk(t, room)
		l := has(t, d)
		must(t, "Append", l.Append(recs...), api.ErrFull)
		must(t, "Again", l.Again(recs...), api.ErrFull)
		has(t, d)
		stays(t, d, look{left: room, on: true})
	}
	d := newDisk(t, size)
	l := has(t, d)
	must(t, "Append", l.Append(recs...), api.OK)
	must(t, "Append of none", l.Append(), api.OK)
	must(t, "Append of one more", l.Append(boot(2)), api.ErrFull)
	has(t, d, recs...)
}

// However many are handed on, the call ends.
func TestAppendOfVeryMany(t *testing.T) {
	d, l := logOf(t, mostRoom, boot(1))
	many := slices.Repeat([]rec.Rec{ended(1)}, 100000)
	was := seen(d)
	must(t, "Append", l.Append(many...), api.ErrFull)
	must(t, "Again", l.Again(many...), api.ErrFull)
	if got := l.Size(many...); got != len(many)*12 {
		t.Error(got)
	}
	many[len(many)-1] = rec.Rec{}
	must(t, "Append", l.Append(many...), api.ErrArg)
	stays(t, d, was)
}

func TestWithoutPower(t *testing.T) {
	d, l := logOf(t, 200, boot(1))
	must(t, "Append", l.Append(ended(1)), api.OK)
	must(t, "Fail", d.Fail(), api.OK)
	was := seen(d)
	for _, recs := range [][]rec.Rec{nil, {boot(2)}, slices.Repeat([]rec.Rec{boot(2)}, 100)} {
		must(t, "Append", l.Append(recs...), api.ErrDown)
		must(t, "Again", l.Again(recs...), api.ErrDown)
	}
	must(t, "Force", l.Force(), api.ErrDown)
	for _, n := range []int{math.MinInt, -1, 0, 1, 22, 23, math.MaxInt} {
		must(t, "Drop", l.Drop(n), api.ErrDown)
		must(t, "Trim", l.Trim(n), api.ErrDown)
	}
	stays(t, d, was)
	if l.Pending() != 12 || l.Left() != 200-22 || l.Room() != 200 || l.Size(boot(1)) != 10 {
		t.Error(l.Pending(), l.Left(), l.Room(), l.Size(boot(1)))
	}
	lose(t, d, 12, false)
	must(t, "Append to the log that was opened ahead of it", l.Append(boot(3)), api.OK)
	has(t, d, boot(1), ended(1), boot(3))
}

func TestForce(t *testing.T) {
	d, l := logOf(t, 200)
	d.Arm(1)
	must(t, "Append", l.Append(boot(1)), api.OK)
	must(t, "Force", l.Force(), api.OK)
	must(t, "Append", l.Append(boot(2)), api.OK)
	must(t, "Force", l.Force(), api.ErrDown)
	if d.On() {
		t.Error("the fuse is not the disk's")
	}
	lose(t, d, 0, false)
	has(t, d, boot(1))
}

// P12.2

func TestAgain(t *testing.T) {
	for _, had := range [][]rec.Rec{nil, {boot(1)}, all()} {
		for _, more := range [][]rec.Rec{nil, {ended(8)}} {
			for _, recs := range [][]rec.Rec{nil, {boot(2)}, {boot(2), ended(5)}, all()} {
				d, l := logOf(t, mostRoom, had...)
				must(t, "Append", l.Append(more...), api.OK)
				end := d.End()
				must(t, "Again", l.Again(recs...), api.OK)
				size := len(bytesOf(t, recs...))
				want := look{text: string(bytesOf(t, recs...)), base: end, end: end + size, first: end, sure: end + size, left: mostRoom - size, on: true}
				stays(t, d, want)
				has(t, d, recs...)
				must(t, "Append", l.Append(ended(6)), api.OK)
				has(t, d, append(slices.Clone(recs), ended(6))...)
			}
		}
	}
}

// Both the log and what it is to be must have room, though only the one stays.
func TestAgainWithoutRoom(t *testing.T) {
	had, recs := []rec.Rec{boot(1), ended(1)}, []rec.Rec{boot(2), ended(2), ended(3)}
	size := len(bytesOf(t, append(slices.Clone(had), recs...)...))
	d, l := logOf(t, size-1, had...)
	was := seen(d)
	must(t, "Again", l.Again(recs...), api.ErrFull)
	stays(t, d, was)
	has(t, d, had...)
	must(t, "Again", l.Again(recs[:2]...), api.OK)
	has(t, d, recs[:2]...)

	d, l = logOf(t, size, had...)
	must(t, "Again", l.Again(recs...), api.OK)
	has(t, d, recs...)
}

func TestAgainForcesTwice(t *testing.T) {
	for fuse := range 4 {
		d, l := logOf(t, 200, boot(1))
		d.Arm(fuse)
		want := api.ErrDown
		if fuse >= 2 {
			want = api.OK
		}
		must(t, "Again", l.Again(boot(2)), want)
		if d.On() != (fuse >= 2) {
			t.Error(fuse, d.On())
		}
		if fuse == 3 {
			must(t, "the Force that is left", l.Force(), api.OK)
			must(t, "the next one", l.Force(), api.ErrDown)
		}
	}
}

// counts are numbers of bytes of a log that has as many, and of ones that it has not.
func counts(size int) (there, not []int) {
	for n := range size + 1 {
		there = append(there, n)
	}
	return there, []int{math.MinInt, math.MinInt + 1, -size, -1, size + 1, size + 100, math.MaxInt - 1, math.MaxInt}
}

// shifted is a log whose base is above 0, with records in part forced.
func shifted(t *testing.T) (*disk.Disk, *wal.Log, []rec.Rec) {
	d, l := logOf(t, 300, boot(1), boot(2))
	must(t, "Drop", l.Drop(10), api.OK)
	must(t, "Force", l.Force(), api.OK)
	must(t, "Append", l.Append(ended(1), ended(2)), api.OK)
	return d, l, []rec.Rec{boot(2), ended(1), ended(2)}
}

func TestDrop(t *testing.T) {
	d, l, recs := shifted(t)
	size := len(bytesOf(t, recs...))
	was := seen(d)
	there, not := counts(size)
	for _, n := range not {
		must(t, "Drop", l.Drop(n), api.ErrArg)
		stays(t, d, was)
	}
	for _, n := range there {
		d, l, _ := shifted(t)
		must(t, "Drop", l.Drop(n), api.OK)
		want := was
		want.text, want.base = was.text[n:], was.base+n
		stays(t, d, want)
	}
	must(t, "Drop", l.Drop(10), api.OK)
	must(t, "Drop counts from the base on", l.Drop(12), api.OK)
	has(t, d, ended(2))
	must(t, "Drop", l.Drop(13), api.ErrArg)
	lose(t, d, size, false)
	has(t, d, recs...)
}

func TestTrim(t *testing.T) {
	d, l, recs := shifted(t)
	size := len(bytesOf(t, recs...))
	was := seen(d)
	there, not := counts(size)
	for _, n := range not {
		must(t, "Trim", l.Trim(n), api.ErrArg)
		stays(t, d, was)
	}
	for _, n := range there {
		d, l, _ := shifted(t)
		must(t, "Trim", l.Trim(n), api.OK)
		want := was
		want.text, want.end, want.sure, want.left = was.text[:n], was.base+n, min(was.sure, was.base+n), was.left+size-n
		stays(t, d, want)
		has(t, d, wholeIn(t, recs, n)...)
	}
	must(t, "Trim", l.Trim(22), api.OK)
	must(t, "Trim", l.Trim(23), api.ErrArg)
	must(t, "Trim", l.Trim(10), api.OK)
	lose(t, d, size, false)
	has(t, d, boot(2))
}

// P12.3

func TestSize(t *testing.T) {
	_, l := logOf(t, 20)
	sum := 0
	for _, r := range all() {
		n := len(bytesOf(t, r))
		sum += n
		if got := l.Size(r); got != n {
			t.Errorf("%v: %d; want %d", r, got, n)
		}
	}
	if got := l.Size(all()...); got != sum {
		t.Errorf("%d; want %d", got, sum)
	}
	if l.Size() != 0 || l.Size([]rec.Rec{}...) != 0 {
		t.Error(l.Size())
	}
	for _, bad := range none() {
		for _, recs := range [][]rec.Rec{{bad}, {bad, bad}, {bad, boot(1)}, {boot(1), bad}, {bad, boot(1), bad}} {
			want := 0
			if slices.ContainsFunc(recs, rec.May) {
				want = 10
			}
			if got := l.Size(recs...); got != want {
				t.Errorf("%v: %d; want %d", recs, got, want)
			}
		}
	}
}

func TestLeftRoomPending(t *testing.T) {
	d := newDisk(t, 100)
	l := has(t, d)
	is := func(what string, left, pending int) {
		t.Helper()
		if l.Left() != left || l.Pending() != pending || l.Room() != 100 {
			t.Fatalf("%s: left %d, pending %d, room %d; want %d, %d", what, l.Left(), l.Pending(), l.Room(), left, pending)
		}
	}
	is("New", 100, 0)
	must(t, "Append", l.Append(boot(1)), api.OK)
	is("Append", 90, 10)
	must(t, "Append", l.Append(ended(1), ended(2)), api.OK)
	is("Append of two", 66, 34)
	must(t, "Force", l.Force(), api.OK)
	is("Force", 66, 0)
	must(t, "Append", l.Append(boot(2)), api.OK)
	is("Append", 56, 10)
	must(t, "Drop", l.Drop(10), api.OK)
	is("Drop has no room till it is forced", 56, 10)
	must(t, "Trim", l.Trim(30), api.OK)
	is("Trim has room", 60, 6)
	must(t, "Force", l.Force(), api.OK)
	is("Force", 70, 0)
	must(t, "Again", l.Again(), api.OK)
	is("Again", 100, 0)
	must(t, "Append", l.Append(boot(3)), api.OK)
	must(t, "Drop", l.Drop(10), api.OK)
	is("what was dropped is not forced either", 90, 10)
}

func TestLogsThatNobodyGave(t *testing.T) {
	for _, l := range []*wal.Log{nil, {}, new(wal.Log)} {
		for _, recs := range [][]rec.Rec{nil, {boot(1)}, none()} {
			must(t, "Append", l.Append(recs...), api.ErrNil)
			must(t, "Again", l.Again(recs...), api.ErrNil)
			if got := l.Size(recs...); got != 0 {
				t.Error(got)
			}
		}
		must(t, "Force", l.Force(), api.ErrNil)
		for _, n := range []int{math.MinInt, -1, 0, 1, math.MaxInt} {
			must(t, "Drop", l.Drop(n), api.ErrNil)
			must(t, "Trim", l.Trim(n), api.ErrNil)
		}
		if l.Left() != 0 || l.Room() != 0 || l.Pending() != 0 {
			t.Error(l.Left(), l.Room(), l.Pending())
		}
	}
}

// R4

func TestListsAreTheCallers(t *testing.T) {
	d := newDisk(t, mostRoom)
	l := has(t, d)
	given := append(make([]rec.Rec, 0, 20), all()...)
	must(t, "Append", l.Append(given...), api.OK)
	l.Size(given...)
	if !sameList(given, all()) || slices.ContainsFunc(given[len(given):20], func(r rec.Rec) bool { return r.Kind != 0 }) {
		t.Fatal("Append wrote into what it was handed")
	}
	clear(given[4].Writes)
	clear(given)
	_, one := opened(t, d)
	_, two := opened(t, d)
	clear(one[4].Writes)
	clear(one[6].Missing)
	clear(one)
	if !sameList(two, all()) {
		t.Fatal("one answer turned another")
	}
	has(t, d, all()...)

	given = append(given[:0], boot(4), ended(4))
	must(t, "Again", l.Again(given...), api.OK)
	if !sameList(given, []rec.Rec{boot(4), ended(4)}) {
		t.Fatal("Again wrote into what it was handed")
	}
	clear(given)
	has(t, d, boot(4), ended(4))
}

// Two logs of two disks have nothing in common; two of one disk have all.
func TestLogsAndDisks(t *testing.T) {
	a, one := logOf(t, 200, boot(1))
	b, _ := logOf(t, 200, boot(2))
	has(t, a, boot(1))
	has(t, b, boot(2))
	two := has(t, a, boot(1))
	must(t, "Append", one.Append(ended(1)), api.OK)
	must(t, "Append", two.Append(ended(2)), api.OK)
	must(t, "Again", one.Again(boot(3)), api.OK)
	if two.Left() != one.Left() || two.Left() != 190 {
		t.Error(one.Left(), two.Left())
	}
	has(t, a, boot(3))
}
