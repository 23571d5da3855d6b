package part_test

import (
	"slices"
	"testing"

	"parrel/api"
	"parrel/msg"
	"parrel/part"
)

// walk is a row of steps at a part, and at the lists that tell what it has to do.
type walk struct {
	row    chance
	x      *place
	m      *model
	keys   []api.Key
	txs    []api.Tx
	losses int    // one of so many steps is a loss of power
	asks   int    // so many of 20 messages are asks
	reads  int    // one of so many asks is to write
	votes  [4]int // how often each Yes was voted
}

func newWalk(t *testing.T, seed int) *walk {
	t.Helper()
	w := &walk{row: chance(7000 + seed)}
	var first []api.Write
	for n := range 1 + w.row.below(10) {
		w.keys = append(w.keys, manyKey(n))
		first = append(first, api.Write{Key: manyKey(n), Item: of(uint32(n%3), "i")})
	}
	for n := range 2 + w.row.below(120) {
		w.txs = append(w.txs, tx(uint32(n+1)))
	}
	w.losses, w.asks, w.reads = 30+w.row.below(300), 8+w.row.below(12), 1+w.row.below(9)
	w.x = placeOf(t, first)
	w.m = modelOf(w.x.s)
	// One key is no key of the store.
	w.keys = append(w.keys, key("none"))
	return w
}

func (w *walk) tx() api.Tx { return w.txs[w.row.below(len(w.txs))] }

func (w *walk) key() api.Key { return w.keys[w.row.below(len(w.keys))] }

// reg is mostly one by which a transaction is known, or staged; some are of none.
func (w *walk) reg(x api.Tx) api.Reg {
	g, _ := w.m.reg(x)
	if s := w.m.work(x); s != nil {
		g = s.reg
	}
	switch w.row.below(12) {
	case 0:
		g.N++
		g.Boot = max(1, g.Boot)
	case 1:
		g = api.Reg{Boot: 1, N: uint32(1 + w.row.below(9))}
	}
	return g
}

// item is one that is somewhat newer than a key's, or not.
func (w *walk) item(k api.Key) api.Item {
	version := uint32(w.row.below(5))
	if i := w.m.item(k); i != nil && w.row.below(20) > 0 {
		version = i.Version + 1 + uint32(w.row.below(3))
	}
	return of(version, "v"+string([]byte{'a' + byte(w.row.below(2))}))
}

// writes are mostly of what a transaction holds to write.
func (w *walk) writes(x api.Tx) []api.Write {
	var out []api.Write
	for _, k := range w.keys {
		chosen := w.row.below(60) == 0
		if modeOf(w.m.locks, x, k) == toWrite {
			chosen = w.row.below(8) > 0
		}
		if chosen {
			out = append(out, api.Write{Key: k, Item: w.item(k)})
		}
	}
	slices.SortFunc(out, func(a, b api.Write) int { return slices.Compare(a.Key[:], b.Key[:]) })
	return out
}

// ask is of any transaction, and key.
func (w *walk) ask() msg.Msg {
	m := msg.Msg{Kind: msg.Ask, Tx: w.tx(), Time: uint32(w.row.below(30)), Key: w.key(), Mode: toRead, No: uint32(w.row.below(1000))}
	if w.row.below(w.reads) == 0 {
		m.Mode = toWrite
	}
	if w.row.below(3) == 0 {
		m.Reg = w.reg(m.Tx)
	}
	return m
}

// message is some message that may be.
func (w *walk) message() msg.Msg {
	if w.row.below(20) < w.asks {
		return w.ask()
	}
	x, k := w.tx(), w.key()
	switch chosen := w.row.below(9); {
	case chosen < 4:
		// Those that could be prepared are few.
		if len(w.m.locks) > 0 && w.row.below(3) > 0 {
			x = w.m.locks[w.row.below(len(w.m.locks))].tx
		}
		return msg.Msg{Kind: msg.Prepare, Tx: x, Reg: w.reg(x), Writes: w.writes(x)}
	case chosen < 7:
		// So are those that are staged.
		if len(w.m.staged) > 0 && w.row.below(2) == 0 {
			x = w.m.staged[w.row.below(len(w.m.staged))].tx
		}
		return msg.Msg{Kind: msg.Decide, Tx: x, Yes: uint8(1 + w.row.below(2))}
	}
	return msg.Msg{Kind: msg.Fresh, Tx: x, Key: k, Item: w.item(k)}
}

// step does one thing at both, and asks for the same answer, which it tells.
func (w *walk) step(t *testing.T) (msg.Msg, []part.Send) {
	t.Helper()
	if w.m.off || w.row.below(w.losses) == 0 {
		if w.row.below(2) == 0 && !w.m.off {
			w.x.d.Arm(0)
			w.m.armed = true
		} else {
			w.x.again(t)
			w.m = modelOf(w.x.s)
		}
		return msg.Msg{}, nil
	}
	if w.row.below(25) == 0 {
		x := w.tx()
		got := w.x.p.Late(x)
		sent(t, "Late", got, w.m.late(x)...)
		return msg.Msg{}, got
	}
	m := w.message()
	if !msg.May(m) {
		t.Fatalf("%v may not be", m)
	}
	got := calls(w.x.p)[m.Kind](m)
	sent(t, "a message", got, w.should(m)...)
	if m.Kind == msg.Prepare {
		w.votes[got[0].Msg.Yes]++
	}
	return m, got
}

func (w *walk) should(m msg.Msg) []part.Send {
	switch m.Kind {
	case msg.Ask:
		return w.m.ask(m)
	case msg.Prepare:
		return w.m.prepare(m)
	case msg.Decide:
		return w.m.decide(m)
	}
	return w.m.fresh(m)
}

// agree asks for all that can be told of the part.
func (w *walk) agree(t *testing.T) {
	t.Helper()
	var known, users, staged []api.Tx
	for _, x := range w.m.known {
		known = append(known, x.tx)
	}
	for _, x := range w.m.users {
		users = append(users, x.Tx)
	}
	for _, x := range w.m.staged {
		staged = append(staged, x.tx)
	}
	for _, list := range [][]api.Tx{known, users, staged} {
		slices.SortFunc(list, byName)
	}
	if !slices.Equal(w.x.p.Known(), known) || !slices.Equal(w.x.p.Users(), users) || !slices.Equal(w.x.s.Staged(), staged) {
		t.Fatalf("known are %v, want %v; users %v, want %v; staged %v, want %v", w.x.p.Known(), known, w.x.p.Users(), users, w.x.s.Staged(), staged)
	}
	if !slices.Equal(w.x.s.Items(), w.m.items) || w.x.d.On() == w.m.off {
		t.Fatalf("the items are %v; want %v; %v, %v", w.x.s.Items(), w.m.items, w.x.d.On(), w.m.off)
	}
	for _, x := range w.txs {
		g, is := w.x.p.Reg(x)
		if want, should := w.m.reg(x); g != want || is != should {
			t.Fatalf("the reg of %v is %v, %v; want %v, %v", x, g, is, want, should)
		}
		for _, k := range w.keys {
			if got, want := w.x.p.Holds(x, k), modeOf(w.m.locks, x, k); got != want {
				t.Fatalf("%v holds %v in the mode %d; want %d", x, k, got, want)
			}
		}
	}
}

// Over mixed steps, and losses of power, a part does what the lists do.
func TestMixedSteps(t *testing.T) {
	greatest, votes := 0, [4]int{}
	for seed := range 60 {
		w := newWalk(t, seed)
		for range 500 {
			w.step(t)
			w.agree(t)
			greatest = max(greatest, len(w.m.users))
		}
		for yes := range votes {
			votes[yes] += w.votes[yes]
		}
	}
	if greatest < mostUsers || min(votes[voteYes], votes[voteRead], votes[voteNo]) < 100 {
		t.Fatalf("at most %d users, and the votes %v", greatest, votes)
	}
}

// The same steps do the same, in whatever order maps are gone over.
func TestTheSameStepsDoTheSame(t *testing.T) {
	for seed := range 10 {
		var want [][]part.Send
		for turn := range 4 {
			w := newWalk(t, seed)
			for n := range 200 {
				_, got := w.step(t)
				if turn == 0 {
					want = append(want, got)
				}
				sent(t, "the same step", got, want[n]...)
			}
		}
	}
}

// P17.6: a staged one holds its keys to write, until its Decide lets both go, whoever asks, and however often the power fails.
func TestStagedOnesHold(t *testing.T) {
	ended := 0
	for seed := range 30 {
		w := newWalk(t, 100+seed)
		was := map[api.Tx][]api.Write{}
		for range 500 {
			m, _ := w.step(t)
			for x, l := range was {
				if _, _, is := w.x.s.Writes(x); !is && (m.Kind != msg.Decide || m.Tx != x) {
					t.Fatalf("%v is not staged any more, and had no Decide", x)
				} else if !is {
					ended++
				}
				for _, y := range l {
					if owner, is := w.x.s.Owner(y.Key); is && owner == x && w.x.p.Holds(x, y.Key) != toWrite {
						t.Fatalf("%v is staged, and does not hold %v", x, y.Key)
					}
				}
			}
			clear(was)
			for _, x := range w.x.s.Staged() {
				was[x], _, _ = w.x.s.Writes(x)
				for _, y := range was[x] {
					if w.x.p.Holds(x, y.Key) != toWrite {
						t.Fatalf("%v is staged, and does not hold %v", x, y.Key)
					}
				}
			}
		}
	}
	if ended < 100 {
		t.Fatal(ended)
	}
}

// P17.7: who votes 1 by a reg held all that was granted by that reg, from the first Grant on.
func TestWhoVotesYesHeld(t *testing.T) {
	yes := 0
	for seed := range 30 {
		w := newWalk(t, 200+seed)
		granted, lost := map[named][]claim{}, map[named]bool{}
		for range 500 {
			_, got := w.step(t)
			for n, s := range got {
				by := named{s.Msg.Tx, s.Msg.Reg}
				if s.Msg.Kind == msg.Vote && n == 0 && s.Msg.Yes == voteYes && len(granted[by]) > 0 {
					yes++
					if lost[by] {
						t.Fatalf("%v voted yes, and had lost a lock", by)
					}
					// From now on its writes' keys alone are held through a loss of power.
					delete(granted, by)
				}
				if s.Msg.Kind == msg.Grant {
					granted[by] = append(granted[by], claim{tx: by.tx, key: s.Msg.Key, mode: s.Msg.Mode})
				}
			}
			for by, list := range granted {
				g, is := w.x.p.Reg(by.tx)
				for _, c := range list {
					lost[by] = lost[by] || !is || g != by.reg || w.x.p.Holds(c.tx, c.key) < c.mode
				}
			}
		}
	}
	if yes < 100 {
		t.Fatal(yes)
	}
}

// P17.8: all users of the locks are known or staged, and all of these are users.
func TestUsersAreKnownOrStaged(t *testing.T) {
	for seed := range 30 {
		w := newWalk(t, 300+seed)
		for range 500 {
			w.step(t)
			both := append(w.x.p.Known(), w.x.s.Staged()...)
			slices.SortFunc(both, byName)
			if !slices.Equal(w.x.p.Users(), both) {
				t.Fatalf("users are %v; known are %v, staged %v", w.x.p.Users(), w.x.p.Known(), w.x.s.Staged())
			}
		}
	}
}
