package stage_test

import (
	"slices"
	"testing"

	"parrel/api"
	"parrel/stage"
)

// walk is a row of steps at a stage, and at the list that tells what it has to do.
type walk struct {
	row  chance
	s    *stage.Stage
	m    model
	keys []api.Key
	txs  []api.Tx
}

func newWalk(seed int) *walk {
	w := &walk{row: chance(1000 + seed), s: stage.New()}
	for n := range 4 + w.row.below(250) {
		w.keys = append(w.keys, api.Key{'k', byte(n + 1)})
	}
	for n := range 2 + w.row.below(150) {
		w.txs = append(w.txs, tx(uint8(n%3), uint32(1+n%2), uint32(1+n)))
	}
	return w
}

// any is a transaction that may be there or not, with a few writes.
func (w *walk) any() entry {
	var keys []api.Key
	for range 1 + w.row.below(3) {
		keys = append(keys, w.keys[w.row.below(len(w.keys))])
	}
	e := entry{tx: w.txs[w.row.below(len(w.txs))], reg: reg(1, uint32(1+w.row.below(2)))}
	for _, k := range risingKeys(keys) {
		e.writes = append(e.writes, api.Write{Key: k, Item: of(uint32(w.row.below(3)), "x")})
	}
	return e
}

func (w *walk) step(t *testing.T) {
	t.Helper()
	e := w.any()
	switch chosen := w.row.below(24); {
	case chosen == 0 && len(w.m) > 0:
		e = w.m[w.row.below(len(w.m))]
		fallthrough
	case chosen < 22:
		must(t, "Put", w.s.Put(e.tx, e.reg, slices.Clone(e.writes)), w.m.put(e))
	default:
		want, why := w.m.take(e.tx)
		if why != api.OK {
			notTaken(t, w.s, e.tx, why)
			return
		}
		taken(t, w.s, e.tx, want)
	}
}

// agree asks for all that can be told of the stage.
func (w *walk) agree(t *testing.T) {
	t.Helper()
	has(t, w.s, w.m.rising()...)
	for _, k := range w.keys {
		want, there := w.m.owner(k)
		if got, is := w.s.Owner(k); got != want || is != there {
			t.Fatalf("%v is written by %v, %v; want %v, %v", k, got, is, want, there)
		}
	}
	for _, x := range w.txs {
		if w.m.find(x) < 0 {
			hasNot(t, w.s, x)
		}
	}
}

// P14.3

// eachKeyHasOneOwner asks it of the stage alone: who owns a key writes it, and all writes are owned by who writes them.
func eachKeyHasOneOwner(t *testing.T, s *stage.Stage, keys []api.Key) {
	t.Helper()
	writers := map[api.Key]int{}
	for _, x := range s.All() {
		l, _, _ := s.Writes(x)
		for _, w := range l {
			writers[w.Key]++
			owned(t, s, w.Key, x)
		}
	}
	for _, k := range keys {
		x, is := s.Owner(k)
		if is != (writers[k] == 1) || writers[k] > 1 {
			t.Fatalf("%v has %d writers, and the owner %v, %v", k, writers[k], x, is)
		}
		if l, _, _ := s.Writes(x); is && !slices.ContainsFunc(l, func(w api.Write) bool { return w.Key == k }) {
			t.Fatalf("%v is owned by %v, which writes %v", k, x, l)
		}
	}
}

// Over mixed steps a stage does what a list of what was put does, and no key has two owners.
func TestMixedSteps(t *testing.T) {
	greatest := 0
	for seed := range 60 {
		w := newWalk(seed)
		for range 400 {
			w.step(t)
			w.agree(t)
			eachKeyHasOneOwner(t, w.s, w.keys)
			greatest = max(greatest, len(w.m))
		}
	}
	if greatest < mostPrepared {
		t.Fatalf("no stage had more than %d", greatest)
	}
}

// P14.4

// In whatever order they are put and taken, all are taken as they were put.
func TestWhatWasPutIsTakenAsItWas(t *testing.T) {
	var list []entry
	for n, l := range goodLists() {
		var own []api.Write
		for _, x := range l {
			k := x.Key
			copy(k[1:], k[:])
			k[0] = byte(n + 1)
			own = append(own, api.Write{Key: k, Item: x.Item})
		}
		list = append(list, entry{goodTxs()[2*n], goodRegs()[n], own})
	}
	list = append(list, full()[:mostPrepared-len(list)]...)
	for n := len(goodLists()); n < len(list); n++ {
		list[n].tx.Boot = 77
	}
	row := chance(11)
	for range 40 {
		s := stageOf(t, shuffled(&row, list)...)
		for _, e := range shuffled(&row, list) {
			taken(t, s, e.tx, e.writes)
			hasNot(t, s, e.tx)
			notTaken(t, s, e.tx, api.ErrNone)
		}
		has(t, s)
	}
}

// P14.5

// Each error that Put and Take have is answered, and nothing that can be told is another then.
func TestWhatIsRefusedTurnsNothing(t *testing.T) {
	list := full()
	for had := range mostPrepared + 1 {
		s := stageOf(t, list[:had]...)
		for range 3 {
			must(t, "Put of no name", s.Put(api.Tx{}, reg(1, 1), writes("a", "")), api.ErrArg)
			must(t, "Put of no reg", s.Put(tx(7, 9, 9), api.Reg{}, writes("a", "")), api.ErrArg)
			must(t, "Put of no writes", s.Put(tx(7, 9, 9), reg(1, 1), nil), api.ErrArg)
			must(t, "Put of falling writes", s.Put(tx(7, 9, 9), reg(1, 1), writes("ba", "")), api.ErrArg)
			notTaken(t, s, tx(7, 9, 9), api.ErrNone)
			if had > 0 {
				e := list[had/2]
				must(t, "Put of other writes", s.Put(e.tx, e.reg, writes("a", "")), api.ErrThere)
				must(t, "Put of its keys", s.Put(tx(7, 9, 9), e.reg, append(writes("a", ""), e.writes...)), api.ErrState)
				must(t, "Put of its keys", s.Put(tx(7, 9, 9), e.reg, append(slices.Clone(e.writes), writes("z", "")...)), api.ErrState)
			}
			if had == mostPrepared {
				must(t, "Put of one more", s.Put(tx(7, 9, 9), reg(1, 1), writes("a", "")), api.ErrMany)
			}
			has(t, s, list[:had]...)
			hasNot(t, s, tx(7, 9, 9))
			free(t, s, api.Key{'a'}, api.Key{'b'}, api.Key{'z'})
		}
		if had < mostPrepared {
			must(t, "Put where there is room", s.Put(tx(7, 9, 9), reg(1, 1), writes("abz", "")), api.OK)
			has(t, s, append(slices.Clone(list[:had]), entry{tx(7, 9, 9), reg(1, 1), writes("abz", "")})...)
		}
	}
}

// What was refused takes none of the places.
func TestRefusedOnesTakeNoPlace(t *testing.T) {
	s := stageOf(t, entry{tx(7, 7, 7), reg(1, 1), writes("m", "")})
	for n := range 2 * mostPrepared {
		must(t, "Put", s.Put(tx(1, 9, uint32(n+1)), reg(1, 1), writes("mn", "")), api.ErrState)
		must(t, "Put", s.Put(tx(1, 9, uint32(n+1)), reg(1, 1), writes("lm", "")), api.ErrState)
	}
	has(t, s, entry{tx(7, 7, 7), reg(1, 1), writes("m", "")})
	for n := range mostPrepared - 1 {
		must(t, "Put", s.Put(full()[n].tx, reg(1, 1), full()[n].writes), api.OK)
	}
	must(t, "Put of one more", s.Put(tx(1, 9, 1), reg(1, 1), writes("a", "")), api.ErrMany)
}
