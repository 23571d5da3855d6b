package clock

import (
	"slices"
	"testing"

	"parrel/api"
)

// greatest is the last time, as the document tells it. So many ticks would take too long: the time is set near its end.
const greatest = 1<<31 - 1

func near(left uint32) *Clock {
	c := New()
	c.now = greatest - left
	return c
}

// P9.2: the time goes up to 2^31 - 1, and stays there.
func TestTickAtTheEnd(t *testing.T) {
	a, b := Name{Kind: 1}, Name{Kind: 2}
	c := near(2)
	for _, s := range []struct {
		name  Name
		after uint32
	}{{a, 1}, {b, 2}} {
		if why := c.Set(s.name, s.after); why != api.OK {
			t.Fatal(why)
		}
	}
	for i, want := range []Name{a, b} {
		if names, why := c.Tick(); !slices.Equal(names, []Name{want}) || why != api.OK {
			t.Fatalf("Tick %d: %v, %v; want %v", i, names, why, want)
		}
	}
	for range 3 {
		if names, why := c.Tick(); len(names) != 0 || why != api.ErrMax {
			t.Fatal(names, why)
		}
		if c.Now() != greatest || c.Len() != 0 {
			t.Fatal(c.Now(), c.Len())
		}
	}
}

// P9.1: nothing is set that would ring behind the last time, however far behind it.
func TestSetNearTheEnd(t *testing.T) {
	for _, left := range []uint32{0, 1, 2, 63, 64, 1000} {
		// The time and wraps are 2^32, so that the sum is 0 if it leaves its type.
		wraps := uint32(1<<31+1) + left
		for _, after := range []uint32{left + 1, left + 2, greatest, greatest + 1, wraps - 1, wraps, wraps + 1, 1<<32 - 1} {
			c := near(left)
			if why := c.Set(Name{}, after); why != api.ErrMax || c.Len() != 0 {
				t.Errorf("%d left, Set(%d): %v, and %d", left, after, why, c.Len())
			}
		}
		c := near(left)
		if why := c.Set(Name{}, 0); why != api.ErrArg {
			t.Errorf("%d left, Set(0): %v", left, why)
		}
		if left == 0 {
			continue
		}
		if why := c.Set(Name{}, left); why != api.OK {
			t.Errorf("%d left, Set(%d): %v", left, left, why)
		}
		if when, is := c.Until(Name{}); when != greatest || !is {
			t.Errorf("%d left: %d, %v", left, when, is)
		}
	}
}

// P9.2, rule R7: what is refused at the end leaves what can still be told.
func TestStopAtTheEnd(t *testing.T) {
	c := near(1)
	c.Set(Name{Kind: 1}, 1)
	if why := c.Set(Name{Kind: 1}, 2); why != api.ErrMax {
		t.Fatal(why)
	}
	if n, when, is := c.Next(); n != (Name{Kind: 1}) || when != greatest || !is {
		t.Fatal(n, when, is)
	}
	if !c.Stop(Name{Kind: 1}) {
		t.Fatal("it was there")
	}
	if names, why := c.Tick(); len(names) != 0 || why != api.OK {
		t.Fatal(names, why)
	}
	if _, why := c.Tick(); why != api.ErrMax {
		t.Fatal(why)
	}
}

// What has rung or was stopped is kept nowhere.
func TestNothingStays(t *testing.T) {
	c := New()
	for i := range uint32(500) {
		c.Set(Name{Kind: uint8(i), Tx: api.Tx{Num: i}}, 1+i%200)
		if i%3 == 0 {
			c.Stop(Name{Kind: uint8(i), Tx: api.Tx{Num: i}})
		}
	}
	for range 200 {
		c.Tick()
	}
	there := len(c.times)
	for i := range c.slots {
		there += len(c.slots[i])
	}
	if there != 0 {
		t.Fatal(there)
	}
}
