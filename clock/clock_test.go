package clock_test

import (
	"maps"
	"math"
	"slices"
	"testing"

	"parrel/api"
	"parrel/clock"
)

// The limits, as the document tells them.
const (
	mostTimers = 1024
	mostTime   = 1<<31 - 1
)

// named is a timer's name of four numbers.
func named(kind, node uint8, boot, num uint32) clock.Name {
	return clock.Name{Kind: kind, Tx: api.Tx{Node: node, Boot: boot, Num: num}}
}

// nth is one of many names, no two of which are the same.
func nth(i int) clock.Name { return named(uint8(i%3), uint8(i%5), uint32(i%7), uint32(i)) }

// must is an error that has to be that one.
func must(t *testing.T, what string, got, want api.Errno) {
	t.Helper()
	if got != want {
		t.Fatalf("%s: %v; want %v", what, got, want)
	}
}

// set sets a timer that may be set.
func set(t *testing.T, c *clock.Clock, n clock.Name, after uint32) {
	t.Helper()
	must(t, "Set", c.Set(n, after), api.OK)
}

// rings lets time go on by one, at which just these ring.
func rings(t *testing.T, c *clock.Clock, want ...clock.Name) {
	t.Helper()
	was := c.Now()
	names, why := c.Tick()
	if !slices.Equal(names, want) || why != api.OK || c.Now() != was+1 {
		t.Fatalf("Tick at %d: %v, %v, and it is %d; want %v", was, names, why, c.Now(), want)
	}
}

// until tells of a timer that rings at another time.
func until(t *testing.T, c *clock.Clock, n clock.Name, want uint32) {
	t.Helper()
	if when, is := c.Until(n); when != want || !is {
		t.Fatalf("Until(%v): %d, %v; want %d", n, when, is, want)
	}
}

// gone tells of a timer that is there.
func gone(t *testing.T, c *clock.Clock, n clock.Name) {
	t.Helper()
	if when, is := c.Until(n); when != 0 || is {
		t.Fatalf("Until(%v): %d, %v", n, when, is)
	}
}

// empty tells of a clock that has timers.
func empty(t *testing.T, c *clock.Clock) {
	t.Helper()
	if c.Len() != 0 {
		t.Fatalf("it has %d", c.Len())
	}
	if n, when, is := c.Next(); n != (clock.Name{}) || when != 0 || is {
		t.Fatalf("Next: %v, %d, %v", n, when, is)
	}
}

// full is a clock with as many timers as it can have.
func full(t *testing.T) *clock.Clock {
	t.Helper()
	c := clock.New()
	for i := range mostTimers {
		if c.Len() != i {
			t.Fatalf("it has %d; want %d", c.Len(), i)
		}
		set(t, c, nth(i), uint32(1+i))
	}
	return c
}

// P9.1

func TestNew(t *testing.T) {
	c := clock.New()
	if c == nil || c.Now() != 0 {
		t.Fatal(c.Now())
	}
	empty(t, c)
	gone(t, c, clock.Name{})
	for range 200 {
		rings(t, c)
	}
	empty(t, c)
}

func TestSetAfter(t *testing.T) {
	for _, ticks := range []int{0, 1, 2, 63, 64, 65, 300} {
		c := clock.New()
		for range ticks {
			rings(t, c)
		}
		left := uint32(mostTime - ticks)
		for _, after := range []uint32{1, 2, 63, 64, 65, 1 << 16, left - 1, left} {
			set(t, c, named(1, 2, 3, 4), after)
			until(t, c, named(1, 2, 3, 4), uint32(ticks)+after)
		}
		for _, after := range []uint32{left + 1, left + 2, mostTime + 1, 1 << 31, math.MaxUint32 - uint32(ticks), math.MaxUint32} {
			must(t, "Set of too late a time", c.Set(named(1, 2, 3, 4), after), api.ErrMax)
			must(t, "Set of too late a time", c.Set(named(9, 2, 3, 4), after), api.ErrMax)
		}
		must(t, "Set(0)", c.Set(named(1, 2, 3, 4), 0), api.ErrArg)
		must(t, "Set(0)", c.Set(named(9, 2, 3, 4), 0), api.ErrArg)
		// What was refused set nothing, and stopped nothing.
		until(t, c, named(1, 2, 3, 4), mostTime)
		gone(t, c, named(9, 2, 3, 4))
		if c.Len() != 1 {
			t.Fatal(c.Len())
		}
	}
}

// Any names, whether or not they may be.
func TestSetOfAnyName(t *testing.T) {
	c := clock.New()
	all := []clock.Name{
		{},
		named(0, 0, 0, 1),
		named(0, 0, 1, 0),
		named(0, 0, math.MaxUint32, math.MaxUint32),
		named(0, 255, 0, 0),
		named(255, 0, 0, 0),
		named(255, 255, math.MaxUint32, math.MaxUint32),
	}
	for i, n := range all {
		set(t, c, n, 1)
		if c.Len() != i+1 {
			t.Fatal(c.Len())
		}
	}
	rings(t, c, all...)
	empty(t, c)
}

func TestSetOfTooMany(t *testing.T) {
	c := full(t)
	for range 2 {
		must(t, "Set of one more", c.Set(nth(mostTimers), 1), api.ErrMany)
		gone(t, c, nth(mostTimers))
		if c.Len() != mostTimers {
			t.Fatal(c.Len())
		}
	}
	// One that is there may be set anew.
	set(t, c, nth(7), 2000)
	until(t, c, nth(7), 2000)
	must(t, "Set of one more", c.Set(nth(mostTimers), 1), api.ErrMany)
	// One that is stopped, and one that rings, leave their room.
	if !c.Stop(nth(8)) {
		t.Fatal("it was there")
	}
	set(t, c, nth(mostTimers), 2001)
	must(t, "Set of one more", c.Set(nth(8), 1), api.ErrMany)
	rings(t, c, nth(0))
	set(t, c, nth(0), 1)
	must(t, "Set of one more", c.Set(nth(8), 1), api.ErrMany)
	if c.Len() != mostTimers {
		t.Fatal(c.Len())
	}
}

// The error that is named first is the answer.
func TestSetErrorsInOrder(t *testing.T) {
	c := full(t)
	must(t, "Set(0)", c.Set(nth(mostTimers), 0), api.ErrArg)
	must(t, "Set of too late a time", c.Set(nth(mostTimers), mostTime+1), api.ErrMax)
	must(t, "Set of one more", c.Set(nth(mostTimers), mostTime), api.ErrMany)
	must(t, "Set of one that is there", c.Set(nth(0), mostTime), api.OK)
}

// It rings no more when it would have rung: set to a later time, to an earlier one, and to the same.
func TestSetAnew(t *testing.T) {
	for _, first := range []uint32{1, 2, 3, 64, 65, 66, 130} {
		for _, then := range []uint32{1, 2, 3, 64, 65, 66, 130} {
			for _, between := range []uint32{0, 1, 63} {
				if between >= first {
					continue
				}
				c := clock.New()
				set(t, c, nth(1), first)
				for range between {
					rings(t, c)
				}
				set(t, c, nth(1), then)
				until(t, c, nth(1), between+then)
				if c.Len() != 1 {
					t.Fatal(c.Len())
				}
				for range then - 1 {
					rings(t, c)
				}
				rings(t, c, nth(1))
				for range 200 {
					rings(t, c)
				}
			}
		}
	}
}

func TestStop(t *testing.T) {
	c := clock.New()
	if c.Stop(nth(1)) {
		t.Fatal("there is none")
	}
	set(t, c, nth(1), 3)
	set(t, c, nth(2), 3)
	if c.Stop(nth(3)) || !c.Stop(nth(1)) || c.Stop(nth(1)) {
		t.Fatal("it is there just till it is stopped")
	}
	gone(t, c, nth(1))
	if c.Len() != 1 {
		t.Fatal(c.Len())
	}
	rings(t, c)
	rings(t, c)
	rings(t, c, nth(2))
	if c.Stop(nth(2)) {
		t.Fatal("it has rung")
	}
	set(t, c, nth(1), 1)
	rings(t, c, nth(1))
	empty(t, c)
}

// P9.2

// The chapter's example.
func TestExample(t *testing.T) {
	c := clock.New()
	a := named(1, 0, 1, 1)
	set(t, c, a, 2)
	rings(t, c)
	rings(t, c, a)
	rings(t, c)
}

// Names rise by the kind, then the node, then Boot, then Num.
func TestTickInOrder(t *testing.T) {
	rising := []clock.Name{
		named(0, 9, 9, 9), named(1, 0, 9, 9), named(1, 1, 0, 9), named(1, 1, 1, 0), named(1, 1, 1, 1),
		named(1, 1, 2, 0), named(1, 2, 0, 0), named(2, 0, 0, 0), named(255, 0, 0, 0),
	}
	x := chance(0x9E3779B97F4A7C15)
	for range 100 {
		c := clock.New()
		mixed := slices.Clone(rising)
		for i := range mixed {
			j := i + x.below(len(mixed)-i)
			mixed[i], mixed[j] = mixed[j], mixed[i]
		}
		// Set at several times, so as to ring at one.
		for i, n := range mixed {
			set(t, c, n, uint32(100-i))
			rings(t, c)
		}
		for c.Now() < 99 {
			rings(t, c)
		}
		rings(t, c, rising...)
		empty(t, c)
	}
}

// Times go ahead of names: a greater name may ring first.
func TestTickByTime(t *testing.T) {
	c := clock.New()
	for i, after := range []uint32{129, 65, 1, 128, 64, 2} {
		set(t, c, named(uint8(i), 0, 0, 0), after)
	}
	for now := uint32(1); now <= 200; now++ {
		switch now {
		case 1:
			rings(t, c, named(2, 0, 0, 0))
		case 2:
			rings(t, c, named(5, 0, 0, 0))
		case 64:
			rings(t, c, named(4, 0, 0, 0))
		case 65:
			rings(t, c, named(1, 0, 0, 0))
		case 128:
			rings(t, c, named(3, 0, 0, 0))
		case 129:
			rings(t, c, named(0, 0, 0, 0))
		default:
			rings(t, c)
		}
	}
}

func TestAllRingAtOnce(t *testing.T) {
	c := clock.New()
	for i := range mostTimers {
		set(t, c, named(0, 0, 0, uint32(mostTimers-i)), 70)
	}
	for range 69 {
		rings(t, c)
	}
	names, why := c.Tick()
	must(t, "Tick", why, api.OK)
	if len(names) != mostTimers {
		t.Fatal(len(names))
	}
	for i, n := range names {
		if n != named(0, 0, 0, uint32(i+1)) {
			t.Fatalf("%v at %d", n, i)
		}
	}
	empty(t, c)
}

// What was answered may be written into.
func TestNamesAreTheCallers(t *testing.T) {
	c := clock.New()
	for i := range 4 {
		set(t, c, named(uint8(i), 0, 0, 0), uint32(1+64*(i/2)))
	}
	one, _ := c.Tick()
	for i := range one {
		one[i] = nth(99)
	}
	_ = append(one, nth(98), nth(97))
	for range 63 {
		rings(t, c)
	}
	rings(t, c, named(2, 0, 0, 0), named(3, 0, 0, 0))
	if !slices.Equal(one, []clock.Name{nth(99), nth(99)}) {
		t.Fatal(one)
	}
}

func TestClocksAreApart(t *testing.T) {
	a, b := clock.New(), clock.New()
	set(t, a, nth(1), 1)
	set(t, b, nth(1), 2)
	rings(t, a, nth(1))
	if b.Now() != 0 || a.Now() != 1 {
		t.Fatal(a.Now(), b.Now())
	}
	empty(t, a)
	until(t, b, nth(1), 2)
}

// P9.3

func TestNextAndUntil(t *testing.T) {
	c := clock.New()
	next := func(want clock.Name, at uint32) {
		t.Helper()
		for range 2 {
			if n, when, is := c.Next(); n != want || when != at || !is {
				t.Fatalf("Next: %v, %d, %v; want %v, %d", n, when, is, want, at)
			}
		}
	}
	set(t, c, named(5, 0, 0, 0), 200)
	next(named(5, 0, 0, 0), 200)
	set(t, c, named(6, 0, 0, 0), 100)
	next(named(6, 0, 0, 0), 100)
	set(t, c, named(7, 0, 0, 0), 101)
	next(named(6, 0, 0, 0), 100)
	set(t, c, named(4, 0, 0, 0), 100)
	next(named(4, 0, 0, 0), 100)
	// Of one slot and another time.
	set(t, c, named(3, 0, 0, 0), 36)
	next(named(3, 0, 0, 0), 36)
	c.Stop(named(3, 0, 0, 0))
	next(named(4, 0, 0, 0), 100)
	set(t, c, named(4, 0, 0, 0), mostTime)
	next(named(6, 0, 0, 0), 100)
	// The name that is all zeros may be the first one.
	set(t, c, clock.Name{}, 100)
	next(clock.Name{}, 100)
	for range 99 {
		rings(t, c)
	}
	next(clock.Name{}, 100)
	rings(t, c, clock.Name{}, named(6, 0, 0, 0))
	next(named(7, 0, 0, 0), 101)
	rings(t, c, named(7, 0, 0, 0))
	next(named(5, 0, 0, 0), 200)
	c.Stop(named(5, 0, 0, 0))
	next(named(4, 0, 0, 0), mostTime)
	c.Stop(named(4, 0, 0, 0))
	empty(t, c)
}

func TestNil(t *testing.T) {
	for _, c := range []*clock.Clock{nil, {}, new(clock.Clock)} {
		for range 2 {
			for _, after := range []uint32{0, 1, mostTime, mostTime + 1, math.MaxUint32} {
				must(t, "Set", c.Set(nth(1), after), api.ErrNil)
				must(t, "Set", c.Set(clock.Name{}, after), api.ErrNil)
			}
			if names, why := c.Tick(); len(names) != 0 || why != api.ErrNil {
				t.Error(names, why)
			}
			if c.Stop(nth(1)) || c.Stop(clock.Name{}) || c.Now() != 0 {
				t.Error(c.Now())
			}
			gone(t, c, nth(1))
			gone(t, c, clock.Name{})
			empty(t, c)
		}
	}
}

// chance gives numbers that look like any: the same ones each time.
type chance uint64

func (x *chance) below(n int) int {
	*x ^= *x << 13
	*x ^= *x >> 7
	*x ^= *x << 17
	return int(uint64(*x) % uint64(n))
}

// after is a time that is near, or a round of some slots off, and now and then one that may not be.
func (x *chance) after() uint32 {
	switch x.below(12) {
	case 0:
		return 0
	case 1:
		return uint32(mostTime - x.below(400))
	case 2:
		return uint32(1<<31 + x.below(1<<31))
	case 3, 4, 5:
		return uint32(64*x.below(4) + x.below(3))
	}
	return uint32(1 + x.below(12))
}

// name is one of a few.
func (x *chance) name() clock.Name {
	return named(uint8(x.below(3)), uint8(x.below(3)), uint32(x.below(3)), uint32(x.below(3)))
}

// model is a clock told in another way: it has no slots, and asks all timers each time.
type model struct {
	now   uint64
	times map[clock.Name]uint64
}

func before(a, b clock.Name) int {
	for _, pair := range [][2]uint32{
		{uint32(a.Kind), uint32(b.Kind)}, {uint32(a.Tx.Node), uint32(b.Tx.Node)},
		{a.Tx.Boot, b.Tx.Boot}, {a.Tx.Num, b.Tx.Num},
	} {
		if pair[0] != pair[1] {
			return int(int64(pair[0]) - int64(pair[1]))
		}
	}
	return 0
}

// at are those that ring at a time, in order.
func (m *model) at(when uint64) []clock.Name {
	var names []clock.Name
	for n, w := range m.times {
		if w == when {
			names = append(names, n)
		}
	}
	slices.SortFunc(names, before)
	return names
}

func (m *model) set(n clock.Name, after uint32) api.Errno {
	_, is := m.times[n]
	switch {
	case after == 0:
		return api.ErrArg
	case m.now+uint64(after) > mostTime:
		return api.ErrMax
	case !is && len(m.times) == mostTimers:
		return api.ErrMany
	}
	m.times[n] = m.now + uint64(after)
	return api.OK
}

func (m *model) tick() []clock.Name {
	m.now++
	names := m.at(m.now)
	for _, n := range names {
		delete(m.times, n)
	}
	return names
}

func (m *model) next() (clock.Name, uint32, bool) {
	if len(m.times) == 0 {
		return clock.Name{}, 0, false
	}
	first := slices.Min(slices.Collect(maps.Values(m.times)))
	return m.at(first)[0], uint32(first), true
}

// same tells what a clock and its model tell otherwise.
func same(t *testing.T, c *clock.Clock, m *model) {
	t.Helper()
	if uint64(c.Now()) != m.now || c.Len() != len(m.times) {
		t.Fatalf("at %d, %d; want %d, %d", c.Now(), c.Len(), m.now, len(m.times))
	}
	for i := range 81 {
		n := named(uint8(i/27), uint8(i/9%3), uint32(i/3%3), uint32(i%3))
		when, is := c.Until(n)
		if want, wantIs := m.times[n]; uint64(when) != want || is != wantIs {
			t.Fatalf("Until(%v): %d, %v; want %d, %v", n, when, is, want, wantIs)
		}
	}
	n, when, is := c.Next()
	if want, at, wantIs := m.next(); n != want || when != at || is != wantIs {
		t.Fatalf("Next: %v, %d, %v; want %v, %d, %v", n, when, is, want, at, wantIs)
	}
}

// The promises as a whole, against a model.
func TestAsTheModel(t *testing.T) {
	x := chance(88172645463325252)
	for range 150 {
		c, m := clock.New(), &model{times: map[clock.Name]uint64{}}
		for range 300 {
			n, after := x.name(), x.after()
			switch x.below(5) {
			case 0, 1:
				must(t, "Set", c.Set(n, after), m.set(n, after))
			case 2:
				_, want := m.times[n]
				delete(m.times, n)
				if got := c.Stop(n); got != want {
					t.Fatalf("Stop(%v): %v", n, got)
				}
			default:
				rings(t, c, m.tick()...)
			}
			same(t, c, m)
		}
	}
}

// P9.4

// Timers that nobody stops or sets anew each ring once, and at their own time.
func TestEachRingsOnceWhenItShould(t *testing.T) {
	x := chance(2463534242)
	for range 30 {
		c := clock.New()
		due, rang := map[clock.Name]uint32{}, map[clock.Name]uint32{}
		for i := range 600 {
			if i < 300 {
				for range x.below(4) {
					n, after := nth(len(due)), uint32(1+x.below(290))
					set(t, c, n, after)
					due[n] = c.Now() + after
				}
			}
			names, why := c.Tick()
			must(t, "Tick", why, api.OK)
			for _, n := range names {
				if rang[n] != 0 {
					t.Fatalf("%v rang at %d, and again at %d", n, rang[n], c.Now())
				}
				rang[n] = c.Now()
			}
		}
		if !maps.Equal(due, rang) {
			t.Fatalf("rang: %v; want %v", rang, due)
		}
		empty(t, c)
	}
}

// P9.5

func TestNextIsWhatRingsFirst(t *testing.T) {
	x := chance(362436069)
	for range 200 {
		c := clock.New()
		for range 1 + x.below(40) {
			set(t, c, x.name(), uint32(1+x.below(200)))
			if x.below(3) == 0 {
				c.Stop(x.name())
			}
		}
		for c.Len() > 0 {
			n, when, is := c.Next()
			if !is || when <= c.Now() {
				t.Fatal(n, when, is, c.Now())
			}
			for c.Now() < when-1 {
				rings(t, c)
			}
			names, why := c.Tick()
			if len(names) == 0 || names[0] != n || why != api.OK {
				t.Fatalf("%v, %v; want %v", names, why, n)
			}
		}
	}
}

// P9.6

// Two clocks have the same timers but one: whatever is done with that one, the others ring alike.
func TestTheOneTurnsNoOther(t *testing.T) {
	x := chance(521288629)
	own := named(1, 1, 1, 7)
	for range 200 {
		with, without := clock.New(), clock.New()
		for range 200 {
			n, after := x.name(), x.after()
			switch x.below(4) {
			case 0:
				must(t, "Set", with.Set(n, after), without.Set(n, after))
			case 1:
				if with.Stop(n) != without.Stop(n) {
					t.Fatal(n)
				}
			case 2:
				if x.below(3) == 0 {
					with.Stop(own)
				} else {
					with.Set(own, x.after())
				}
			}
			got, why := with.Tick()
			must(t, "Tick", why, api.OK)
			want, _ := without.Tick()
			if others := slices.DeleteFunc(got, func(n clock.Name) bool { return n == own }); !slices.Equal(others, want) {
				t.Fatalf("%v; want %v", others, want)
			}
			when, is := with.Until(n)
			if at, there := without.Until(n); when != at || is != there {
				t.Fatalf("Until(%v): %d, %v; want %d, %v", n, when, is, at, there)
			}
		}
	}
}
