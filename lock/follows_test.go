package lock_test

import (
	"slices"
	"testing"

	"parrel/api"
	"parrel/lock"
)

// walk is a row of steps at a table, and at the lists that tell what it has to do.
type walk struct {
	row  chance
	l    *lock.Table
	m    model
	keys []api.Key
	txs  []api.Tx
	late int // one of so many steps lets a user go
}

func newWalk(seed int) *walk {
	w := &walk{row: chance(1000 + seed), l: lock.New()}
	for n := range 1 + w.row.below(12) {
		w.keys = append(w.keys, api.Key{'k', byte(n + 1)})
	}
	for n := range 2 + w.row.below(100) {
		w.txs = append(w.txs, tx(uint8(n%3), uint32(1+n%2), uint32(1+n)))
	}
	w.late = 3 + w.row.below(40)
	return w
}

func (w *walk) tx() api.Tx { return w.txs[w.row.below(len(w.txs))] }

func (w *walk) key() api.Key { return w.keys[w.row.below(len(w.keys))] }

// step does one thing at both, and asks for the same answer; it tells who was wounded.
func (w *walk) step(t *testing.T) []api.Tx {
	t.Helper()
	x := w.tx()
	switch chosen := w.row.below(w.late); {
	case chosen == 0:
		want, error := w.m.release(x)
		out, why := w.l.Release(x)
		answered(t, "Release", out, why, want, error)
	case chosen == 1:
		want, error := w.m.prepare(x)
		out, why := w.l.Prepare(x)
		answered(t, "Prepare", out, why, want, error)
	case chosen == 2 && w.row.below(4) == 0:
		keys := shuffled(&w.row, w.keys)[:1+w.row.below(min(3, len(w.keys)))]
		error := w.m.restore(x, keys)
		must(t, "Restore", w.l.Restore(x, keys...), error)
	default:
		// A user asks with another stamp each time: just its first one counts.
		s, k, mode := api.Stamp{Time: uint32(w.row.below(9)), Tx: x}, w.key(), uint8(1+w.row.below(2))
		want, error := w.m.ask(s, k, mode)
		out, why := w.l.Ask(s, k, mode)
		answered(t, "Ask", out, why, want, error)
		return out.Wounded
	}
	return nil
}

// agree asks for all that can be told of the table.
func (w *walk) agree(t *testing.T) {
	t.Helper()
	if got, want := w.l.Users(), w.m.rising(); !slices.Equal(got, want) {
		t.Fatalf("Users: %v; want %v", got, want)
	}
	modes := map[claim]uint8{}
	for _, c := range w.m.locks {
		modes[claim{tx: c.tx, key: c.key}] = c.mode
	}
	for _, x := range w.txs {
		if w.l.Waits(x) != w.m.isWaiting(x) || w.l.Prepared(x) != w.m.isPrepared(x) {
			t.Fatalf("%v waits: %v, is prepared: %v", x, w.l.Waits(x), w.l.Prepared(x))
		}
		for _, k := range w.keys {
			if got, want := w.l.Mode(x, k), modes[claim{tx: x, key: k}]; got != want {
				t.Fatalf("%v holds %v in the mode %d; want %d", x, k, got, want)
			}
		}
	}
	for _, k := range w.keys {
		if got, want := w.l.Queue(k), w.m.queue(k); !slices.Equal(got, want) {
			t.Fatalf("%v wait for %v; want %v", got, k, want)
		}
	}
}

// Over mixed steps a table does what the lists do.
func TestMixedSteps(t *testing.T) {
	greatest := 0
	for seed := range 80 {
		w := newWalk(seed)
		for range 400 {
			w.step(t)
			w.agree(t)
			greatest = max(greatest, len(w.m.users))
		}
	}
	if greatest < mostUsers {
		t.Fatalf("no table had more than %d users", greatest)
	}
}

// The same steps do the same, in whatever order maps are gone over.
func TestTheSameStepsDoTheSame(t *testing.T) {
	for seed := range 20 {
		var want []lock.Out
		for turn := range 5 {
			w := newWalk(seed)
			for n := range 300 {
				out, _ := w.l.Ask(api.Stamp{Time: uint32(w.row.below(9)), Tx: w.tx()}, w.key(), uint8(1+w.row.below(2)))
				if n%7 == 0 {
					out, _ = w.l.Release(w.tx())
				}
				if turn == 0 {
					want = append(want, out)
				}
				answered(t, "Ask or Release", out, api.OK, want[n], api.OK)
			}
		}
	}
}

// P15.4

func TestLocksGoTogether(t *testing.T) {
	shared := 0
	for seed := range 40 {
		w := newWalk(2000 + seed)
		for range 400 {
			w.step(t)
			for _, k := range w.keys {
				readers, writers := 0, 0
				for _, x := range w.l.Users() {
					switch w.l.Mode(x, k) {
					case toRead:
						readers++
					case toWrite:
						writers++
					}
				}
				if writers > 1 || writers == 1 && readers > 0 {
					t.Fatalf("%v is held by %d to write, and %d to read", k, writers, readers)
				}
				shared = max(shared, readers)
			}
		}
	}
	if shared < 3 {
		t.Fatalf("no key was held by more than %d to read", shared)
	}
}

// P15.5

// waitsFor are all whose lock on a key, or whose wait ahead, does not go together with a wait.
func (w *walk) waitsFor(wait claim, ahead []api.Tx) []api.Tx {
	var out []api.Tx
	for _, y := range w.l.Users() {
		held := claim{y, wait.key, w.l.Mode(y, wait.key)}
		if held.mode != 0 && !together(held, wait) {
			out = append(out, y)
		}
	}
	for _, y := range ahead {
		if !together(claim{y, wait.key, modeOf(w.m.waits, y, wait.key)}, wait) {
			out = append(out, y)
		}
	}
	return out
}

// Who waits waits for somebody, and all of these are older, or prepared.
func TestWhoWaitsWaitsForOlderOnes(t *testing.T) {
	older, ready := 0, 0
	for seed := range 60 {
		w := newWalk(3000 + seed)
		for range 300 {
			w.step(t)
			k := w.key()
			queue := w.l.Queue(k)
			for n, x := range queue {
				list := w.waitsFor(claim{x, k, modeOf(w.m.waits, x, k)}, queue[:n])
				if len(list) == 0 {
					t.Fatalf("%v waits for %v, that nobody keeps from it", x, k)
				}
				for _, y := range list {
					switch {
					case w.l.Prepared(y):
						ready++
					case w.m.ages(y, x) < 0:
						older++
					default:
						t.Fatalf("%v waits for %v, which is younger", x, y)
					}
				}
			}
		}
	}
	if older == 0 || ready == 0 {
		t.Fatal(older, ready)
	}
}

// P15.6

// oldest is the oldest user.
func (w *walk) oldest() api.Tx { return slices.MinFunc(w.l.Users(), w.m.ages) }

// letGo releases a user at both.
func (w *walk) letGo(t *testing.T, x api.Tx) {
	t.Helper()
	want, error := w.m.release(x)
	out, why := w.l.Release(x)
	answered(t, "Release", out, why, want, error)
}

// When all prepared ones are released the oldest one does not wait, so that it can be prepared and released, and so the next one, until none is left.
func TestTheOldestDoesNotWait(t *testing.T) {
	had := 0
	for seed := range 300 {
		w := newWalk(4000 + seed)
		for range 20 + w.row.below(200) {
			w.step(t)
		}
		for _, x := range w.l.Users() {
			if w.l.Prepared(x) {
				w.letGo(t, x)
			}
		}
		for len(w.l.Users()) > 0 {
			x := w.oldest()
			if w.l.Waits(x) {
				t.Fatalf("%v waits, and is the oldest one", x)
			}
			if w.row.below(2) == 0 {
				want, error := w.m.prepare(x)
				out, why := w.l.Prepare(x)
				answered(t, "Prepare", out, why, want, error)
			}
			w.letGo(t, x)
			had++
		}
		w.agree(t)
	}
	if had == 0 {
		t.Fatal("nobody was left")
	}
}

// P15.7

func TestPreparedOnesAreNotWounded(t *testing.T) {
	kept := 0
	for seed := range 60 {
		w := newWalk(5000 + seed)
		for range 400 {
			var were []api.Tx
			for _, x := range w.l.Users() {
				if w.l.Prepared(x) {
					were = append(were, x)
				}
			}
			for _, x := range w.step(t) {
				if slices.Contains(were, x) {
					t.Fatalf("%v was prepared, and is wounded", x)
				}
			}
			kept = max(kept, len(were))
		}
	}
	if kept < 2 {
		t.Fatalf("no more than %d were prepared", kept)
	}
}

// Whoever asks, however old, what a prepared one holds stays its own until it is released.
func TestPreparedOnesKeepTheirLocks(t *testing.T) {
	l := lock.New()
	has(t, l, 50, "a", toWrite)
	has(t, l, 50, "b", toWrite)
	prepared(t, l, 50, lock.Out{})
	must(t, "Restore", l.Restore(aged(60).Tx, key("c")), api.OK)
	for num := uint32(40); num > 0; num-- {
		for _, k := range []string{"a", "b", "c"} {
			waits(t, l, num, k, uint8(1+num%2))
		}
		holds(t, l, 50, "", "ab")
		holds(t, l, 60, "", "c")
	}
	released(t, l, 60, grants(got(1, "c", toWrite)))
	released(t, l, 50, grants(got(1, "a", toWrite), got(1, "b", toWrite)))
}

// R7

// Each error that the calls have is answered, and nothing that can be told is another then.
func TestWhatIsRefusedTurnsNothing(t *testing.T) {
	for seed := range 40 {
		w := newWalk(6000 + seed)
		for range 100 {
			w.step(t)
			x := w.tx()
			for _, s := range badStamps() {
				out, why := w.l.Ask(s, w.key(), toWrite)
				answered(t, "Ask", out, why, lock.Out{}, api.ErrArg)
			}
			out, why := w.l.Ask(api.Stamp{Tx: x}, api.Key{}, toWrite)
			answered(t, "Ask of no key", out, why, lock.Out{}, api.ErrArg)
			out, why = w.l.Ask(api.Stamp{Tx: x}, w.key(), 0)
			answered(t, "Ask in no mode", out, why, lock.Out{}, api.ErrArg)
			must(t, "Restore of no keys", w.l.Restore(x), api.ErrArg)
			must(t, "Restore of a key twice", w.l.Restore(x, w.keys[0], w.keys[0]), api.ErrArg)
			out, why = w.l.Prepare(tx(7, 7, 7))
			answered(t, "Prepare of none", out, why, lock.Out{}, api.ErrNone)
			out, why = w.l.Release(tx(7, 7, 7))
			answered(t, "Release of none", out, why, lock.Out{}, api.ErrNone)
			w.agree(t)
		}
	}
}
