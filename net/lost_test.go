package net

import (
	"testing"

	"parrel/api"
)

// P8.3: no more are counted than 2^31 - 1. So many calls would take too long: the count is set near its end.
func TestLostStaysAtTheGreatest(t *testing.T) {
	const most = 1<<31 - 1
	n, _ := New(1)
	n.lost = most - 2
	for i, want := range []int{most - 1, most, most, most} {
		if why := n.Send(Wire{}); why != api.OK {
			t.Fatal(why)
		}
		// One is lost by either way, in turn.
		if i%2 == 0 {
			if why := n.Send(Wire{}); why != api.ErrFull {
				t.Fatal(why)
			}
			if _, why := n.Take(0); why != api.OK {
				t.Fatal(why)
			}
		} else if why := n.Drop(0); why != api.OK {
			t.Fatal(why)
		}
		if n.Lost() != want || n.Len() != 0 {
			t.Fatalf("lost %d, there %d; want %d, 0", n.Lost(), n.Len(), want)
		}
	}
}
