package coord_test

import (
	"slices"
	"strings"
	"testing"

	"parrel/api"
	"parrel/coord"
	"parrel/msg"
	"parrel/part"
)

// walk is a row of steps at a coordinator, and at the lists that tell what it has to do.
type walk struct {
	row    chance
	x      *place
	m      *model
	txs    []api.Tx
	losses int // one of so many steps is a loss of power
	noes   int // one of so many votes is to abort
	ends   [3]int
}

func newWalk(t *testing.T, seed int) *walk {
	t.Helper()
	w := &walk{row: chance(9000 + seed)}
	for num := range 1 + w.row.below(20) {
		w.txs = append(w.txs, tx(uint32(num+1)))
	}
	w.losses, w.noes = 40+w.row.below(400), 4+w.row.below(60)
	w.x = placeOf(t)
	w.m = modelOf(w.x.s)
	return w
}

func (w *walk) tx() api.Tx { return w.txs[w.row.below(len(w.txs))] }

// node is mostly one of the first ones, so that they meet.
func (w *walk) node() uint8 {
	if w.row.below(20) == 0 {
		return uint8(w.row.below(256))
	}
	return uint8(w.row.below(5))
}

// keys are some letters, rising.
func (w *walk) keys(from string) string {
	var out strings.Builder
	for _, c := range from {
		if w.row.below(2) == 0 {
			out.WriteRune(c)
		}
	}
	return out.String()
}

// work is what a transaction may be started with.
func (w *walk) work() ([]coord.Member, []api.Write, []uint64) {
	keys := ""
	if w.row.below(4) > 0 {
		keys = w.keys("abcd")
	}
	var who []coord.Member
	some := false
	for node := range uint8(5) {
		if w.row.below(3) == 0 {
			continue
		}
		own := w.keys(keys)
		some = some || own != ""
		who = append(who, coord.Member{Node: node, Reg: reg(node), Writes: writes(own)})
	}
	if !some {
		for n := range who {
			who[n].Writes = nil
		}
		return who, nil, nil
	}
	var missing []uint64
	for range keys {
		missing = append(missing, uint64(w.row.below(1<<5)&w.row.below(1<<5)))
	}
	return who, writes(keys), missing
}

// vote is mostly one that counts, and by which a transaction goes on.
func (w *walk) vote() (uint8, msg.Msg) {
	from, x := w.node(), w.tx()
	if len(w.m.asked) > 0 && w.row.below(2) == 0 {
		x = w.m.asked[w.row.below(len(w.m.asked))].tx
	}
	m := msg.Msg{Kind: msg.Vote, Tx: x, Reg: reg(from), Yes: uint8(1 + w.row.below(2))}
	if q := w.m.question(x); q != nil && w.row.below(8) > 0 {
		b := q.ballots[w.row.below(len(q.ballots))]
		from, m.Reg, m.Yes = b.Node, b.Reg, voteRead
		if len(b.Writes) > 0 {
			m.Yes = voteYes
		}
	}
	if w.row.below(w.noes) == 0 {
		m.Yes = voteNo
	}
	if w.row.below(20) == 0 {
		m.Reg.N++
	}
	return from, m
}

// back is what is told back of one that is decided, or of any other one.
func (w *walk) back() (uint8, msg.Msg) {
	if len(w.m.debts) > 0 && w.row.below(4) > 0 {
		d := w.m.debts[w.row.below(len(w.m.debts))]
		if (d.key == api.Key{}) {
			return d.to.To, msg.Msg{Kind: msg.Ack, Tx: d.tx}
		}
		return d.to.To, msg.Msg{Kind: msg.Kept, Tx: d.tx, Key: d.key}
	}
	if w.row.below(2) == 0 {
		return w.node(), msg.Msg{Kind: msg.Ack, Tx: w.tx()}
	}
	return w.node(), msg.Msg{Kind: msg.Kept, Tx: w.tx(), Key: key("abcde"[w.row.below(5):][:1])}
}

// loses is a loss of power, or one that is to come, or its end.
func (w *walk) loses(t *testing.T) {
	t.Helper()
	if !w.m.off && w.row.below(2) == 0 {
		w.x.d.Arm(0)
		w.m.armed = true
		return
	}
	w.x.again(t, w.row.below(200))
	w.m = modelOf(w.x.s)
}

// step does one thing at both, and asks for the same answer, which it tells.
func (w *walk) step(t *testing.T) ([]part.Send, []coord.Done) {
	t.Helper()
	if w.row.below(w.losses) == 0 || w.m.off && w.row.below(10) == 0 {
		w.loses(t)
		return nil, nil
	}
	var list, wanted []part.Send
	var done, should []coord.Done
	var what string
	why, because := api.OK, api.OK
	switch chosen := w.row.below(100); {
	case chosen < 12:
		what = "Start"
		x := w.tx()
		who, l, missing := w.work()
		list, done, why = w.x.c.Start(x, who, l, missing)
		wanted, should, because = w.m.start(x, who, l, missing)
	case chosen < 55:
		what = "Vote"
		from, m := w.vote()
		list, done = w.x.c.Vote(from, m)
		wanted, should = w.m.vote(from, m)
	case chosen < 85:
		what = "Ack or Kept"
		from, m := w.back()
		list, _ = calls(w.x.c)[m.Kind](from, m)
		w.m.told(from, m)
	case chosen < 90:
		what = "Inquire"
		from, m := w.node(), msg.Msg{Kind: msg.Inquire, Tx: w.tx()}
		list, wanted = w.x.c.Inquire(from, m), w.m.inquire(from, m)
	case chosen < 97:
		what = "Late"
		x := w.tx()
		list, done = w.x.c.Late(x)
		wanted, should = w.m.late(x)
	default:
		what = "Abort"
		x := w.tx()
		because = api.ErrNone
		if w.m.question(x) != nil {
			wanted, should = w.m.abort(x)
			because = api.OK
		}
		list, done, why = w.x.c.Abort(x)
	}
	must(t, what, why, because)
	sent(t, what, list, wanted...)
	became(t, what, done, should)
	w.count(list, done)
	return list, done
}

// count counts how it ended: aborted, committed without a decision, or with one.
func (w *walk) count(list []part.Send, done []coord.Done) {
	for _, x := range done {
		switch {
		case !x.Committed:
			w.ends[0]++
		case len(list) == 0:
			w.ends[1]++
		default:
			w.ends[2]++
		}
	}
}

// agree asks for all that can be told of the coordinator.
func (w *walk) agree(t *testing.T) {
	t.Helper()
	var asked, stored []api.Tx
	for _, q := range w.m.asked {
		asked = append(asked, q.tx)
	}
	for _, y := range w.x.s.Decisions() {
		stored = append(stored, y.Tx)
	}
	for _, list := range [][]api.Tx{asked, w.m.decided, w.m.stored} {
		slices.SortFunc(list, byName)
	}
	if !slices.Equal(w.x.c.Asked(), asked) || !slices.Equal(w.x.c.Decided(), w.m.decided) || !slices.Equal(stored, w.m.stored) || w.x.d.On() == w.m.off {
		t.Fatalf("asked are %v, want %v; decided %v, want %v; stored %v, want %v; %v", w.x.c.Asked(), asked, w.x.c.Decided(), w.m.decided, stored, w.m.stored, w.m.off)
	}
	for _, x := range w.m.decided {
		list, done := w.x.c.Late(x)
		sent(t, "Late", list, w.m.owed(x)...)
		became(t, "Late", done, nil)
	}
}

// Over mixed steps, and losses of power, a coordinator does what the lists do.
func TestMixedSteps(t *testing.T) {
	ends, over := [3]int{}, 0
	for seed := range 60 {
		w := newWalk(t, seed)
		for range 800 {
			was := len(w.x.s.Decisions())
			w.step(t)
			w.agree(t)
			if len(w.x.s.Decisions()) < was {
				over++
			}
		}
		for n := range ends {
			ends[n] += w.ends[n]
		}
	}
	if slices.Min(ends[:]) < 200 || over < 200 {
		t.Fatal(ends, over)
	}
}

// The same steps do the same, in whatever order maps are gone over.
func TestTheSameStepsDoTheSame(t *testing.T) {
	for seed := range 10 {
		var wanted [][]part.Send
		for turn := range 4 {
			w := newWalk(t, seed)
			for n := range 200 {
				list, _ := w.step(t)
				if turn == 0 {
					wanted = append(wanted, list)
				}
				sent(t, "the same step", list, wanted[n]...)
			}
		}
	}
}

// fates are what became of transactions each of which is started once, as is heard, and as a start behind a loss of power shows.
type fates struct {
	done    map[api.Tx]int
	aborted map[api.Tx]int
}

// hear takes what a call says, at a coordinator that had those decided ahead of it.
func (f *fates) hear(t *testing.T, was []api.Tx, list []part.Send, done []coord.Done) {
	t.Helper()
	for _, x := range done {
		f.done[x.Tx]++
		if f.done[x.Tx] > 1 {
			t.Fatalf("%v is done twice", x)
		}
		if !x.Committed {
			f.aborted[x.Tx]++
		}
	}
	for _, s := range list {
		switch {
		case s.Msg.Kind != msg.Decide:
		case s.Msg.Yes == toCommit && f.aborted[s.Msg.Tx] > 0:
			t.Fatalf("%v was aborted, and is told to commit", s)
		case s.Msg.Yes == toAbort && slices.Contains(was, s.Msg.Tx):
			t.Fatalf("%v is decided, and is told to abort", s)
		}
	}
}

// P18.5: no transaction that is started once is done twice; what was aborted is never told to commit, nor what is decided to abort, through every loss of power.
func TestNoneIsToldBoth(t *testing.T) {
	counts := map[uint8]int{}
	for seed := range 60 {
		w := newWalk(t, 300+seed)
		f := &fates{done: map[api.Tx]int{}, aborted: map[api.Tx]int{}}
		for n := range 1500 {
			if n%5 == 0 {
				// Each Start has a name of its own, and is followed by the others.
				x := tx(uint32(n/5 + 1))
				w.txs = append(w.txs[max(0, len(w.txs)-8):], x)
				who, l, missing := w.work()
				list, done, why := w.x.c.Start(x, who, l, missing)
				must(t, "Start", why, api.OK)
				w.m.start(x, who, l, missing)
				f.hear(t, nil, list, done)
			}
			was := w.x.c.Decided()
			var list []part.Send
			var done []coord.Done
			switch chosen := w.row.below(40); {
			case !w.x.d.On() || chosen == 0:
				w.fails(t, f)
			case chosen == 1:
				w.x.d.Arm(0)
				w.m.armed = true
			case chosen < 3:
				from, m := w.node(), msg.Msg{Kind: msg.Inquire, Tx: w.tx()}
				list = w.x.c.Inquire(from, m)
			case chosen < 8:
				x := w.tx()
				list, done = w.x.c.Late(x)
				w.m.late(x)
			case chosen < 22:
				from, m := w.back()
				list, _ = calls(w.x.c)[m.Kind](from, m)
				w.m.told(from, m)
			default:
				from, m := w.vote()
				list, done = w.x.c.Vote(from, m)
				w.m.vote(from, m)
			}
			f.hear(t, was, list, done)
			for _, s := range list {
				counts[s.Msg.Yes]++
			}
		}
	}
	if counts[toCommit] < 1000 || counts[toAbort] < 1000 {
		t.Fatal(counts)
	}
}

// fails is a loss of power, and a start: what was not decided by then is as good as aborted.
func (w *walk) fails(t *testing.T, f *fates) {
	t.Helper()
	asked, decided := w.x.c.Asked(), w.x.c.Decided()
	w.x.again(t, w.row.below(100))
	w.m = modelOf(w.x.s)
	for _, y := range decided {
		if !slices.Contains(w.x.c.Decided(), y) {
			t.Fatalf("%v was decided, and is not behind a loss of power", y)
		}
	}
	for _, y := range asked {
		if !slices.Contains(w.x.c.Decided(), y) {
			f.aborted[y]++
		}
	}
}

// P18.6: what is committed, and has writes, is in the store by then, with those that voted so, and all that is to be told of it.
func TestDecidedAheadOfBeingTold(t *testing.T) {
	told := 0
	for seed := range 60 {
		w := newWalk(t, 500+seed)
		for range 400 {
			list, done := w.step(t)
			for _, y := range done {
				if !y.Committed || len(list) == 0 {
					continue
				}
				told++
				if w.row.below(2) == 0 {
					w.x.again(t, w.row.below(3))
					w.m = modelOf(w.x.s)
				}
				if !slices.Contains(w.x.c.Decided(), y.Tx) {
					t.Fatalf("%v was told %v, and is not decided", y, list)
				}
				again, _ := w.x.c.Late(y.Tx)
				sent(t, "Late", again, list...)
			}
		}
	}
	if told < 300 {
		t.Fatal(told)
	}
}

// P18.7: if all that are told tell it back, nothing is decided any more, whatever was lost ahead; and nobody is asked for ever.
func TestSoonerOrLaterNothingIsMissing(t *testing.T) {
	for seed := range 60 {
		w := newWalk(t, 700+seed)
		for range 300 {
			w.step(t)
		}
		if !w.x.d.On() || w.m.armed {
			w.x.again(t, 0)
		}
		for range lastLate {
			for _, y := range append(w.x.c.Asked(), w.x.c.Decided()...) {
				list, _ := w.x.c.Late(y)
				for _, s := range list {
					switch {
					case s.Msg.Kind == msg.Fresh:
						w.x.c.Kept(s.To, msg.Msg{Kind: msg.Kept, Tx: y, Key: s.Msg.Key})
					case s.Msg.Kind == msg.Decide && s.Msg.Yes == toCommit:
						w.x.c.Ack(s.To, msg.Msg{Kind: msg.Ack, Tx: y})
					}
				}
			}
			if len(w.x.c.Decided()) > 0 {
				t.Fatal(w.x.c.Decided())
			}
		}
		w.x.has(t, nil, nil)
	}
}
