package wal_test

import (
	"slices"
	"testing"

	"parrel/api"
	"parrel/disk"
	"parrel/rec"
	"parrel/wal"
)

// P12.4

// Wherever the power fails, what was forced is there, and of what was not each record that was kept whole, from the first one on.
func TestLossAtEachByte(t *testing.T) {
	sure, more := all()[:4], all()[4:]
	size := len(bytesOf(t, more...))
	for keep := -1; keep <= size+1; keep++ {
		d, l := logOf(t, mostRoom, sure...)
		must(t, "Append", l.Append(more[:2]...), api.OK)
		must(t, "Append", l.Append(more[2:]...), api.OK)
		lose(t, d, keep, keep%2 == 0)
		want := slices.Concat(sure, wholeIn(t, more, keep))
		l = has(t, d, want...)
		// The half frame went: what is appended now stands behind whole ones.
		must(t, "Append", l.Append(ended(77)), api.OK)
		must(t, "Force", l.Force(), api.OK)
		lose(t, d, 0, false)
		has(t, d, append(slices.Clone(want), ended(77))...)
	}
}

// What was dropped may come again until that is forced, and then never.
func TestLossBehindDrop(t *testing.T) {
	for _, cut := range []bool{false, true} {
		for _, forced := range []bool{false, true} {
			d, l := logOf(t, 200, boot(1), ended(1))
			must(t, "Drop", l.Drop(l.Size(boot(1))), api.OK)
			if forced {
				must(t, "Force", l.Force(), api.OK)
			}
			lose(t, d, 0, cut)
			want := []rec.Rec{boot(1), ended(1)}
			if cut || forced {
				want = want[1:]
			}
			has(t, d, want...)
		}
	}
}

// What was trimmed never comes again, though it was forced.
func TestLossBehindTrim(t *testing.T) {
	d, l := logOf(t, 200, boot(1), ended(1))
	must(t, "Append", l.Append(ended(2)), api.OK)
	must(t, "Trim", l.Trim(l.Size(boot(1))), api.OK)
	lose(t, d, 999, false)
	has(t, d, boot(1))
}

// P12.5

// lossIn lets the power fail within an Again, at its first or second Force, and is what the log has then.
func lossIn(t *testing.T, had, pending, recs []rec.Rec, fuse, keep int, cut bool) []rec.Rec {
	t.Helper()
	d, l := logOf(t, mostRoom, had...)
	must(t, "Append", l.Append(pending...), api.OK)
	d.Arm(fuse)
	must(t, "Again", l.Again(recs...), api.ErrDown)
	lose(t, d, keep, cut)
	_, got := opened(t, d)
	return got
}

func TestLossWithinAgain(t *testing.T) {
	had, pending, recs := all()[:3], all()[3:4], all()[5:]
	before := slices.Concat(had, pending)
	size := len(bytesOf(t, slices.Concat(pending, recs)...))
	for keep := range size + 2 {
		for _, cut := range []bool{false, true} {
			got := lossIn(t, had, pending, recs, 0, keep, cut)
			if want := slices.Concat(had, wholeIn(t, slices.Concat(pending, recs), keep)); !sameList(got, want) {
				t.Fatalf("keep %d, cut %v, at the first Force: %v; want %v", keep, cut, got, want)
			}
			want := recs
			if !cut {
				want = slices.Concat(before, recs)
			}
			if got := lossIn(t, had, pending, recs, 1, keep, cut); !sameList(got, want) {
				t.Fatalf("keep %d, cut %v, at the second Force: %v; want %v", keep, cut, got, want)
			}
		}
	}
}

func TestLossWithinAgainOfNone(t *testing.T) {
	for _, cut := range []bool{false, true} {
		had := all()[:3]
		if got := lossIn(t, had, nil, nil, 0, 99, cut); !sameList(got, had) {
			t.Error(got)
		}
		want := had
		if cut {
			want = nil
		}
		if got := lossIn(t, had, nil, nil, 1, 99, cut); !sameList(got, want) {
			t.Error(got)
		}
	}
}

// Behind an Again there is nothing else, whatever comes.
func TestLossBehindAgain(t *testing.T) {
	for _, recs := range [][]rec.Rec{nil, {boot(2)}, all()[3:]} {
		for _, cut := range []bool{false, true} {
			for _, keep := range []int{-1, 0, 5, 9999} {
				d, l := logOf(t, mostRoom, all()...)
				must(t, "Append", l.Append(ended(4)), api.OK)
				must(t, "Drop", l.Drop(3), api.OK)
				must(t, "Again", l.Again(recs...), api.OK)
				lose(t, d, keep, cut)
				has(t, d, recs...)
			}
		}
	}
}

// P12.6

// Each call that may be refused is, and nothing that can be told is another then.
func TestWhatIsRefusedTurnsNothing(t *testing.T) {
	d, l := logOf(t, 40, boot(1))
	must(t, "Append", l.Append(ended(1)), api.OK)
	must(t, "Drop", l.Drop(2), api.OK)
	was, pending := seen(d), l.Pending()
	for _, c := range []struct {
		what string
		call func() api.Errno
		want api.Errno
	}{
		{"Append", func() api.Errno { return l.Append(boot(2), rec.Rec{}) }, api.ErrArg},
		{"Append", func() api.Errno { return l.Append(boot(2), ended(2)) }, api.ErrFull},
		{"Again", func() api.Errno { return l.Again(boot(2), rec.Rec{}) }, api.ErrArg},
		{"Again", func() api.Errno { return l.Again(boot(2), ended(2)) }, api.ErrFull},
		{"Drop", func() api.Errno { return l.Drop(21) }, api.ErrArg},
		{"Drop", func() api.Errno { return l.Drop(-1) }, api.ErrArg},
		{"Trim", func() api.Errno { return l.Trim(21) }, api.ErrArg},
		{"Trim", func() api.Errno { return l.Trim(-1) }, api.ErrArg},
	} {
		must(t, c.what, c.call(), c.want)
		stays(t, d, was)
		if l.Pending() != pending {
			t.Error(l.Pending(), pending)
		}
	}
}

// P12.7

func TestOpenedTwice(t *testing.T) {
	for _, rest := range append(rests(t), nil) {
		d, _ := logOf(t, mostRoom, all()[:3]...)
		d.Append(rest)
		has(t, d, all()[:3]...)
		was := seen(d)
		for range 3 {
			has(t, d, all()[:3]...)
			stays(t, d, was)
		}
	}
}

// steps is a log told in another way: its records, and how many of them are forced.
type steps struct {
	t    *testing.T
	x    chance
	d    *disk.Disk
	l    *wal.Log
	recs []rec.Rec
	sure int
}

func (s *steps) append() {
	more := s.x.some(4)
	want := api.OK
	if s.l.Size(more...) > s.l.Left() {
		want = api.ErrFull
	}
	must(s.t, "Append", s.l.Append(more...), want)
	if want == api.OK {
		s.recs = slices.Concat(s.recs, more)
	}
}

func (s *steps) force() {
	must(s.t, "Force", s.l.Force(), api.OK)
	s.sure = len(s.recs)
}

func (s *steps) again() {
	recs := s.x.some(5)
	full := s.l.Size(recs...) > s.l.Left()
	fuse := s.x.below(4)
	s.d.Arm(fuse)
	switch why := s.l.Again(recs...); {
	case full:
		must(s.t, "Again", why, api.ErrFull)
	case fuse < 2:
		must(s.t, "Again", why, api.ErrDown)
		s.broken(recs)
	default:
		must(s.t, "Again", why, api.OK)
		s.recs, s.sure = recs, len(recs)
	}
	s.d.Arm(-1)
}

// broken is a loss within an Again of recs: one of two things is there.
func (s *steps) broken(recs []rec.Rec) {
	lose(s.t, s.d, s.x.below(200), s.x.below(2) == 0)
	l, got := opened(s.t, s.d)
	before := beginsWith(got, s.recs[:s.sure]) && beginsWith(slices.Concat(s.recs, recs), got)
	if !before && !sameList(got, recs) {
		s.t.Fatalf("%v is neither some of %v and %v, nor the latter", got, s.recs, recs)
	}
	s.l, s.recs, s.sure = l, got, len(got)
}

// loss is a loss of power outside of a call.
func (s *steps) loss() {
	pending := s.l.Pending()
	lose(s.t, s.d, s.x.below(pending+2), s.x.below(2) == 0)
	l, got := opened(s.t, s.d)
	if !beginsWith(got, s.recs[:s.sure]) || !beginsWith(s.recs, got) {
		s.t.Fatalf("%v is not %v, with some of it behind the first %d", got, s.recs, s.sure)
	}
	s.l, s.recs, s.sure = l, got, len(got)
}

// Whatever is done, in whatever order, the log has what the steps made of it.
func TestSteps(t *testing.T) {
	for run := range 60 {
		d := newDisk(t, 600+run*20)
		s := &steps{t: t, x: chance(run*7919 + 12345), d: d, l: has(t, d)}
		for range 120 {
			switch s.x.below(8) {
			case 0, 1, 2:
				s.append()
			case 3, 4:
				s.force()
			case 5:
				s.again()
			case 6:
				s.loss()
			case 7:
				s.l = has(t, d, s.recs...)
			}
			if got, want := s.l.Pending(), len(bytesOf(t, s.recs[s.sure:]...)); got != want {
				t.Fatalf("%d bytes are pending; want %d", got, want)
			}
			has(t, d, s.recs...)
		}
	}
}
