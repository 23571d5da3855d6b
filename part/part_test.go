package part_test

import (
	"slices"
	"testing"

	"parrel/api"
	"parrel/msg"
	"parrel/part"
	"parrel/store"
)

// Example 1 of the chapter.
func TestExample(t *testing.T) {
	x := placeOf(t, writes("a", 0, ""))
	sent(t, "Ask", x.p.Ask(ask(1, "a", toWrite, 7)), grant(1, reg(1), "a", toWrite, 7, of(0, "")))
	sent(t, "Prepare", x.p.Prepare(prepare(1, reg(1), writes("a", 1, "x"))), vote(1, reg(1), voteYes))
	sent(t, "Decide", x.p.Decide(decide(1, toCommit)), ack(1))
	if x.item("a") != of(1, "x") {
		t.Fatal(x.item("a"))
	}
	x.gone(t, 1)
}

// P17.1

func TestNewOfNothingStaged(t *testing.T) {
	for _, first := range [][]api.Write{nil, writes("abc", 3, "x"), many(mostKeys, 0, "")} {
		x := placeOf(t, first)
		x.knows(t)
		x.uses(t)
		x.gone(t, 1)
	}
}

func TestNewOfStagedOnes(t *testing.T) {
	x := placeOf(t, writes("abcdef", 0, ""))
	for num, keys := range map[uint32]string{3: "bd", 1: "f", 2: "a"} {
		must(t, "Prepare", x.s.Prepare(tx(num), reg(7), writes(keys, 1, "x")), api.OK)
	}
	for range 3 {
		x.p = part.New(x.s)
		x.knows(t)
		x.uses(t, 1, 2, 3)
		x.staged(t, 1, 2, 3)
		x.holds(t, 1, "", "f")
		x.holds(t, 2, "", "a")
		x.holds(t, 3, "", "bd")
		if g, is := x.p.Reg(tx(1)); is || g != (api.Reg{}) {
			t.Fatal(g, is)
		}
		x.again(t)
	}
	// They are prepared: an older one waits for them, too.
	for _, k := range []string{"a", "b", "d", "f"} {
		sent(t, "Ask", x.p.Ask(msg.Msg{Kind: msg.Ask, Tx: tx(4), Key: key(k), Mode: toRead}))
	}
	g := api.Reg{Boot: x.s.Boot(), N: 2}
	sent(t, "Ask of a free key", x.p.Ask(ask(5, "c", toWrite, 9)), grant(5, g, "c", toWrite, 9, of(0, "")))
}

func TestNewOfVeryManyStagedOnes(t *testing.T) {
	first := many(mostKeys, 0, "")
	x := placeOf(t, first)
	for n := range first {
		must(t, "Prepare", x.s.Prepare(tx(uint32(n+1)), reg(1), many(mostKeys, 1, "")[n:n+1]), api.OK)
	}
	x.p = part.New(x.s)
	if got := x.p.Users(); len(got) != mostUsers || !slices.Equal(got, x.s.Staged()) {
		t.Fatal(got)
	}
	for n := range first {
		for m := range first {
			if got := x.p.Holds(tx(uint32(n+1)), manyKey(m)); got == toWrite != (n == m) {
				t.Fatalf("%d holds %d in the mode %d", n, m, got)
			}
		}
	}
	sent(t, "Ask of one more", x.p.Ask(msg.Msg{Kind: msg.Ask, Tx: tx(99), Key: manyKey(3), Mode: toRead, No: 5}), refuse(99, 5, api.ErrMany))
}

// What is told of users are their locks and names: rising by node, boot and number.
func TestKnownRise(t *testing.T) {
	x := placeOf(t, writes("a", 0, ""))
	list := []api.Tx{{Node: 0, Boot: 1, Num: 9}, {Node: 0, Boot: 2, Num: 1}, {Node: 0, Boot: 256, Num: 1}, {Node: 1, Boot: 1, Num: 1}, {Node: 1, Boot: 1, Num: 2},
		{Node: 1, Boot: 1, Num: 256}, {Node: 7, Boot: most, Num: most}}
	for n, at := range []int{5, 0, 3, 6, 1, 4, 2} {
		m := msg.Msg{Kind: msg.Ask, Tx: list[at], Key: key("a"), Mode: toRead}
		want := part.Send{To: list[at].Node, Msg: msg.Msg{Kind: msg.Grant, Tx: list[at], Reg: reg(uint32(n + 1)), Key: key("a"), Mode: toRead, Item: of(0, "")}}
		sent(t, "Ask", x.p.Ask(m), want)
	}
	if !slices.Equal(x.p.Known(), list) || !slices.Equal(x.p.Users(), list) {
		t.Fatal(x.p.Known(), x.p.Users())
	}
}

// P17.2

func TestAskThatIsGranted(t *testing.T) {
	x := placeOf(t, []api.Write{{Key: key("a"), Item: of(most, long(64))}, {Key: key("b"), Item: api.Item{Conf: conf(9)}}})
	sent(t, "Ask", x.p.Ask(ask(3, "a", toRead, 0)), grant(3, reg(1), "a", toRead, 0, of(most, long(64))))
	sent(t, "Ask", x.p.Ask(ask(5, "b", toWrite, most)), grant(5, reg(2), "b", toWrite, most, api.Item{Conf: conf(9)}))
	sent(t, "Ask", x.p.Ask(ask(1, "a", toRead, 7)), grant(1, reg(3), "a", toRead, 7, of(most, long(64))))
	x.knows(t, [2]uint32{1, 3}, [2]uint32{3, 1}, [2]uint32{5, 2})
	x.uses(t, 1, 3, 5)
	x.holds(t, 1, "a", "")
	x.holds(t, 3, "a", "")
	x.holds(t, 5, "", "b")
}

// One that is known stays so by its reg, whether or not it tells that.
func TestAskOfAKnownOne(t *testing.T) {
	x := placeOf(t, writes("abcd", 0, ""))
	x.gets(t, 2, 1, "a", toRead)
	x.gets(t, 3, 2, "a", toRead)
	sent(t, "Ask", x.p.Ask(askBy(reg(1), 2, "b", toWrite, 4)), grant(2, reg(1), "b", toWrite, 4, of(0, "")))
	sent(t, "Ask", x.p.Ask(ask(2, "c", toRead, 5)), grant(2, reg(1), "c", toRead, 5, of(0, "")))
	sent(t, "Ask", x.p.Ask(ask(4, "a", toRead, 6)), grant(4, reg(3), "a", toRead, 6, of(0, "")))
	x.knows(t, [2]uint32{2, 1}, [2]uint32{3, 2}, [2]uint32{4, 3})
	x.holds(t, 2, "ac", "b")
}

// The stamp with which it asks first tells how old a user is.
func TestAskOfAnotherAge(t *testing.T) {
	x := placeOf(t, writes("ab", 0, ""))
	m := ask(2, "a", toRead, 1)
	m.Time = 9
	sent(t, "Ask", x.p.Ask(m), grant(2, reg(1), "a", toRead, 1, of(0, "")))
	m = ask(2, "b", toRead, 2)
	m.Time = 0
	sent(t, "Ask", x.p.Ask(m), grant(2, reg(1), "b", toRead, 2, of(0, "")))
	sent(t, "Ask of an older one", x.p.Ask(ask(8, "b", toWrite, 3)), wound(2, reg(1)), grant(8, reg(2), "b", toWrite, 3, of(0, "")))
}

func TestAskThatIsRefused(t *testing.T) {
	x := placeOf(t, writes("abc", 0, ""))
	x.gets(t, 1, 1, "a", toWrite)
	x.gets(t, 2, 2, "b", toWrite)
	x.stages(t, 2, 2, writes("b", 1, "x"))
	was := x.seen()
	for _, c := range []struct {
		what string
		m    msg.Msg
		why  api.Errno
	}{
		{"no key of the store", ask(3, "d", toRead, 1), api.ErrNone},
		{"no key, of a known one", ask(1, "d", toWrite, 2), api.ErrNone},
		{"no key, of a staged one", ask(2, "aa", toRead, 3), api.ErrNone},
		{"no key, by another reg", askBy(reg(9), 1, "d", toRead, 4), api.ErrNone},
		{"no key, of one that is not known, by a reg", askBy(reg(9), 3, "d", toRead, 4), api.ErrNone},
		{"a staged one", ask(2, "a", toRead, 5), api.ErrState},
		{"a staged one, of its own key", ask(2, "b", toWrite, 6), api.ErrState},
		{"a staged one, by its reg", askBy(reg(2), 2, "c", toRead, most), api.ErrState},
		{"a staged one, by another reg", askBy(reg(1), 2, "c", toRead, 0), api.ErrState},
		{"another reg", askBy(reg(2), 1, "a", toWrite, 8), api.ErrGone},
		{"a reg of another boot", askBy(api.Reg{Boot: 2, N: 1}, 1, "c", toRead, 9), api.ErrGone},
		{"a reg of one that is not known", askBy(reg(1), 3, "a", toRead, 10), api.ErrGone},
		{"the next reg of one that is not known", askBy(reg(3), 3, "c", toWrite, 11), api.ErrGone},
	} {
		sent(t, c.what, x.p.Ask(c.m), refuse(uint32(c.m.Tx.Num), c.m.No, c.why))
		x.stays(t, c.what, was)
	}
	// No reg was taken by all that.
	x.gets(t, 3, 3, "c", toRead)
}

func TestAskOfTooMany(t *testing.T) {
	x := placeOf(t, writes("abc", 0, ""))
	for n := range uint32(mostUsers) {
		x.gets(t, n+1, n+1, "a", toRead)
	}
	was := x.seen()
	for _, m := range []msg.Msg{ask(99, "a", toRead, 5), ask(99, "b", toWrite, 6), ask(100, "a", toWrite, 0)} {
		sent(t, "Ask", x.p.Ask(m), refuse(uint32(m.Tx.Num), m.No, api.ErrMany))
		x.stays(t, "one too many", was)
	}
	// What is told ahead of it.
	sent(t, "Ask", x.p.Ask(ask(99, "d", toRead, 1)), refuse(99, 1, api.ErrNone))
	sent(t, "Ask", x.p.Ask(askBy(reg(1), 99, "a", toRead, 1)), refuse(99, 1, api.ErrGone))
	x.stays(t, "one too many", was)
	// One of them may ask for more, and in the place of another one comes the next reg.
	x.gets(t, 64, 64, "b", toWrite)
	sent(t, "Late", x.p.Late(tx(5)), wound(5, reg(5)))
	x.gets(t, 99, 65, "a", toRead)
	sent(t, "Ask", x.p.Ask(ask(5, "a", toRead, 2)), refuse(5, 2, api.ErrMany))
}

// Of what is held already a Grant comes again, of the mode that was asked for, and nothing turns.
func TestAskForWhatIsHeld(t *testing.T) {
	x := placeOf(t, writes("ab", 0, ""))
	x.gets(t, 2, 1, "a", toRead)
	x.gets(t, 2, 1, "b", toWrite)
	x.gets(t, 3, 2, "a", toRead)
	was := x.seen()
	for no := range uint32(3) {
		sent(t, "Ask", x.p.Ask(ask(2, "a", toRead, no)), grant(2, reg(1), "a", toRead, no, of(0, "")))
		sent(t, "Ask", x.p.Ask(askBy(reg(1), 2, "b", toWrite, no)), grant(2, reg(1), "b", toWrite, no, of(0, "")))
		sent(t, "Ask", x.p.Ask(ask(2, "b", toRead, no)), grant(2, reg(1), "b", toRead, no, of(0, "")))
		x.stays(t, "Ask", was)
	}
	sent(t, "Fresh", x.p.Fresh(fresh(4, "b", of(5, "new"))), kept(4, "b"))
	sent(t, "Ask", x.p.Ask(ask(2, "b", toRead, 9)), grant(2, reg(1), "b", toRead, 9, of(5, "new")))
}

// An ask for more than is held, while others hold it, too, is granted later: of the greater mode.
func TestAskForMoreThanIsHeld(t *testing.T) {
	x := placeOf(t, writes("ab", 0, ""))
	x.gets(t, 3, 1, "b", toRead)
	x.gets(t, 3, 1, "b", toWrite)
	x.holds(t, 3, "", "b")

	x.gets(t, 2, 2, "a", toRead)
	x.gets(t, 3, 1, "a", toRead)
	sent(t, "Ask", x.p.Ask(ask(3, "a", toWrite, 8)))
	x.holds(t, 3, "a", "b")
	// What it holds is told meanwhile; what it waits for keeps the number of its own ask.
	sent(t, "Ask", x.p.Ask(ask(3, "a", toRead, 9)), grant(3, reg(1), "a", toRead, 9, of(0, "")))
	sent(t, "Late", x.p.Late(tx(2)), wound(2, reg(2)), grant(3, reg(1), "a", toWrite, 8, of(0, "")))
	x.holds(t, 3, "", "ab")
	// It waits no more: nothing but its writes is asked of it.
	x.stages(t, 3, 1, writes("ab", 1, "x"))
}

// Who waits does so with the number of its last ask, and for the greater mode.
func TestAskAgain(t *testing.T) {
	for _, c := range []struct {
		asks []uint8
		want uint8
	}{
		{[]uint8{toRead}, toRead}, {[]uint8{toWrite}, toWrite}, {[]uint8{toRead, toRead}, toRead}, {[]uint8{toRead, toWrite}, toWrite},
		{[]uint8{toWrite, toRead}, toWrite}, {[]uint8{toWrite, toRead, toRead}, toWrite},
	} {
		x := placeOf(t, writes("a", 0, ""))
		x.gets(t, 2, 1, "a", toWrite)
		for n, mode := range c.asks {
			sent(t, "Ask", x.p.Ask(ask(3, "a", mode, uint32(20-n))))
		}
		x.knows(t, [2]uint32{2, 1}, [2]uint32{3, 2})
		x.uses(t, 2, 3)
		x.holds(t, 3, "", "")
		no := uint32(20 - len(c.asks) + 1)
		sent(t, "Decide", x.p.Decide(decide(2, toAbort)), grant(3, reg(2), "a", c.want, no, of(0, "")))
		sent(t, "Decide", x.p.Decide(decide(2, toAbort)))
	}
}

// Who waits for several keys has a number for each, and one of 0 is one, too.
func TestWaitsOfSeveralKeys(t *testing.T) {
	x := placeOf(t, writes("abcd", 0, ""))
	x.gets(t, 1, 1, "ac", toWrite)
	x.gets(t, 2, 2, "bd", toWrite)
	sent(t, "Ask", x.p.Ask(ask(3, "c", toWrite, 11)))
	sent(t, "Ask", x.p.Ask(ask(3, "b", toRead, 12)))
	sent(t, "Ask", x.p.Ask(ask(3, "a", toRead, 0)))
	sent(t, "Ask", x.p.Ask(ask(4, "a", toRead, 14)))
	sent(t, "Ask", x.p.Ask(ask(3, "d", toRead, 15)))
	// Key by key, and the older ones first.
	sent(t, "Late", x.p.Late(tx(1)), wound(1, reg(1)), grant(3, reg(3), "a", toRead, 0, of(0, "")), grant(4, reg(4), "a", toRead, 14, of(0, "")),
		grant(3, reg(3), "c", toWrite, 11, of(0, "")))
	x.holds(t, 3, "a", "c")
	sent(t, "Late", x.p.Late(tx(2)), wound(2, reg(2)), grant(3, reg(3), "b", toRead, 12, of(0, "")), grant(3, reg(3), "d", toRead, 15, of(0, "")))
	x.holds(t, 3, "abd", "c")
}

// The older ones are told first that they are wounded, each by its own reg, and all of them ahead of what is granted.
func TestAskThatWounds(t *testing.T) {
	x := placeOf(t, writes("abc", 0, ""))
	x.gets(t, 9, 1, "ab", toRead)
	x.gets(t, 5, 2, "a", toRead)
	x.gets(t, 7, 3, "ac", toRead)
	x.waits(t, 12, "c", toWrite)
	x.waits(t, 11, "b", toWrite)
	x.gets(t, 2, 6, "a", toRead)
	x.waits(t, 13, "a", toWrite)
	sent(t, "Ask", x.p.Ask(ask(3, "a", toWrite, 30)), wound(5, reg(2)), wound(7, reg(3)), wound(9, reg(1)),
		grant(11, reg(5), "b", toWrite, 11, of(0, "")), grant(12, reg(4), "c", toWrite, 12, of(0, "")))
	for _, num := range []uint32{5, 7, 9} {
		x.gone(t, num)
	}
	// The older one still has it.
	x.holds(t, 3, "", "")
	x.holds(t, 2, "a", "")
	sent(t, "Late", x.p.Late(tx(2)), wound(2, reg(6)), grant(3, reg(8), "a", toWrite, 30, of(0, "")))
	sent(t, "Ask", x.p.Ask(ask(1, "a", toRead, 31)), wound(3, reg(8)), grant(1, reg(9), "a", toRead, 31, of(0, "")))
}

// A wounded one has to begin anew: its reg is over, its waits are, too, and another ask gives it another reg.
func TestWoundedOnes(t *testing.T) {
	x := placeOf(t, writes("abc", 0, ""))
	x.gets(t, 2, 1, "a", toRead)
	x.gets(t, 5, 2, "bc", toRead)
	x.gets(t, 1, 3, "b", toRead)
	x.waits(t, 5, "b", toWrite)
	sent(t, "Ask", x.p.Ask(ask(3, "c", toWrite, 3)), wound(5, reg(2)), grant(3, reg(4), "c", toWrite, 3, of(0, "")))
	x.gone(t, 5)
	sent(t, "Late", x.p.Late(tx(1)), wound(1, reg(3)))
	sent(t, "Ask by its reg", x.p.Ask(askBy(reg(2), 5, "b", toRead, 4)), refuse(5, 4, api.ErrGone))
	sent(t, "Prepare by its reg", x.p.Prepare(prepare(5, reg(2), nil)), vote(5, reg(2), voteNo))
	x.gets(t, 5, 5, "b", toWrite)
	sent(t, "Ask by its old reg", x.p.Ask(askBy(reg(2), 5, "a", toRead, 4)), refuse(5, 4, api.ErrGone))
	sent(t, "Ask by its new reg", x.p.Ask(askBy(reg(5), 5, "a", toRead, 4)), grant(5, reg(5), "a", toRead, 4, of(0, "")))
}

// A younger one wounds nobody, whatever it asks for.
func TestAskOfAYoungerOne(t *testing.T) {
	x := placeOf(t, writes("a", 0, ""))
	x.gets(t, 2, 1, "a", toWrite)
	for n, mode := range []uint8{toRead, toWrite} {
		x.waits(t, uint32(3+n), "a", mode)
	}
	x.knows(t, [2]uint32{2, 1}, [2]uint32{3, 2}, [2]uint32{4, 3})
	x.holds(t, 2, "", "a")
	x.waits(t, 9, "a", toRead)
	sent(t, "Late", x.p.Late(tx(3)), wound(3, reg(2)))
	sent(t, "Decide", x.p.Decide(decide(2, toAbort)), grant(4, reg(3), "a", toWrite, 4, of(0, "")))
}

// A reg has the boot of the store, in which its numbers begin at 1.
func TestRegsOfTheNextBoots(t *testing.T) {
	x := placeOf(t, writes("ab", 0, ""))
	x.gets(t, 1, 1, "b", toRead)
	for boot := uint32(1); boot < 4; boot++ {
		for num := uint32(1); num < 5; num++ {
			g := api.Reg{Boot: boot, N: num}
			if boot == 1 {
				g.N++
			}
			m := askBy(api.Reg{}, 10+num, "a", toRead, 0)
			sent(t, "Ask", x.p.Ask(m), grant(10+num, g, "a", toRead, 0, of(0, "")))
		}
		x.again(t)
		x.knows(t)
		x.uses(t)
		sent(t, "Ask by a reg of the last boot", x.p.Ask(askBy(api.Reg{Boot: boot, N: 1}, 11, "a", toRead, 6)), refuse(11, 6, api.ErrGone))
	}
}

// What is granted is told with the item as it is then.
func TestGrantsOfNewItems(t *testing.T) {
	x := placeOf(t, writes("ab", 0, ""))
	x.gets(t, 2, 1, "a", toWrite)
	x.waits(t, 3, "a", toRead)
	sent(t, "Fresh", x.p.Fresh(fresh(9, "a", of(3, "y"))), kept(9, "a"))
	x.stages(t, 2, 1, writes("a", 4, "z"))
	sent(t, "Decide", x.p.Decide(decide(2, toCommit)), ack(2), grant(3, reg(2), "a", toRead, 3, of(4, "z")))
	x.gets(t, 4, 3, "a", toRead)
}

// P17.3

func TestPrepareThatIsVotedYes(t *testing.T) {
	x := placeOf(t, writes("abcde", 2, "i"))
	x.gets(t, 2, 1, "abc", toWrite)
	x.gets(t, 2, 1, "de", toRead)
	x.waits(t, 5, "e", toWrite)
	x.waits(t, 4, "d", toWrite)
	x.waits(t, 3, "d", toWrite)
	x.waits(t, 3, "a", toWrite)
	l := writes("ac", 3, "x")
	// The Vote goes ahead of what the locks to read leave to others.
	sent(t, "Prepare", x.p.Prepare(prepare(2, reg(1), l)), vote(2, reg(1), voteYes),
		grant(3, reg(4), "d", toWrite, 3, of(2, "i")), grant(5, reg(2), "e", toWrite, 5, of(2, "i")))
	x.staged(t, 2)
	if got, g, is := x.s.Writes(tx(2)); !slices.Equal(got, l) || g != reg(1) || !is {
		t.Fatal(got, g, is)
	}
	x.knows(t, [2]uint32{3, 4}, [2]uint32{4, 3}, [2]uint32{5, 2})
	x.uses(t, 2, 3, 4, 5)
	// What it does not write it holds, too, until it is decided.
	x.holds(t, 2, "", "abc")
	if x.item("a") != of(2, "i") {
		t.Fatal("nothing is written yet")
	}
}

func TestPrepareOfAStagedOne(t *testing.T) {
	x := placeOf(t, writes("abc", 0, ""))
	x.gets(t, 2, 1, "abc", toWrite)
	x.stages(t, 2, 1, writes("ab", 1, "x"))
	for range 2 {
		was := x.seen()
		for _, l := range [][]api.Write{writes("ab", 1, "x"), nil, writes("c", 1, "x"), writes("ab", 0, ""), writes("z", 9, "")} {
			sent(t, "Prepare again", x.p.Prepare(prepare(2, reg(1), l)), vote(2, reg(1), voteYes))
			for _, g := range []api.Reg{reg(2), {Boot: 2, N: 1}, {}, {Boot: most, N: most}} {
				sent(t, "Prepare by another reg", x.p.Prepare(prepare(2, g, l)), vote(2, g, voteNo))
			}
		}
		x.stays(t, "Prepare", was)
		x.again(t)
	}
}

func TestPrepareOfOneThatIsNotKnown(t *testing.T) {
	x := placeOf(t, writes("ab", 0, ""))
	x.gets(t, 2, 1, "a", toWrite)
	x.waits(t, 3, "a", toRead)
	was := x.seen()
	for _, l := range [][]api.Write{writes("a", 1, "x"), nil, writes("b", 1, "x")} {
		for _, g := range []api.Reg{reg(1), reg(2), reg(9), {}} {
			sent(t, "Prepare", x.p.Prepare(prepare(4, g, l)), vote(4, g, voteNo))
			if g != reg(1) {
				sent(t, "Prepare by another reg", x.p.Prepare(prepare(2, g, l)), vote(2, g, voteNo))
			}
		}
		sent(t, "Prepare by another boot's", x.p.Prepare(prepare(2, api.Reg{Boot: 2, N: 1}, l)), vote(2, api.Reg{Boot: 2, N: 1}, voteNo))
	}
	x.stays(t, "Prepare", was)
	x.stages(t, 2, 1, writes("a", 1, "x"))
}

func TestPrepareThatWritesNothing(t *testing.T) {
	x := placeOf(t, writes("abc", 0, ""))
	x.gets(t, 2, 1, "a", toWrite)
	x.gets(t, 2, 1, "b", toRead)
	x.waits(t, 4, "a", toRead)
	x.waits(t, 3, "b", toWrite)
	sent(t, "Prepare", x.p.Prepare(prepare(2, reg(1), nil)), vote(2, reg(1), voteRead),
		grant(4, reg(2), "a", toRead, 4, of(0, "")), grant(3, reg(3), "b", toWrite, 3, of(0, "")))
	x.gone(t, 2)
	sent(t, "Prepare again", x.p.Prepare(prepare(2, reg(1), nil)), vote(2, reg(1), voteNo))
	sent(t, "Decide", x.p.Decide(decide(2, toCommit)), ack(2))
}

// One that waits, lacks a lock, or is refused by the store, is forgotten; what it leaves is told behind the Vote.
func TestPrepareThatIsVotedNo(t *testing.T) {
	for _, c := range []struct {
		what string
		do   func(x *place)
		l    []api.Write
	}{
		{"one that waits", func(x *place) { x.waits(t, 3, "d", toRead) }, writes("a", 3, "x")},
		{"one that waits, and writes nothing", func(x *place) { x.waits(t, 3, "d", toRead) }, nil},
		{"one that waits for more than it has", func(x *place) { x.waits(t, 3, "c", toWrite) }, writes("a", 3, "x")},
		{"a key that it does not hold", nil, writes("ae", 3, "x")},
		{"a key that another one holds", nil, writes("d", 3, "x")},
		{"a key that it holds to read", nil, writes("b", 3, "x")},
		{"keys that it holds, and one to read", nil, writes("abf", 3, "x")},
		{"no key of the store", nil, writes("az", 3, "x")},
		{"an old item", nil, writes("af", 1, "x")},
		{"an item as new", nil, append(writes("a", 3, "x"), writes("f", 2, "i")...)},
		{"what came meanwhile", func(x *place) {
			sent(t, "Fresh", x.p.Fresh(fresh(5, "f", of(3, "y"))), kept(5, "f"))
		}, writes("af", 3, "x")},
		{"no power", func(x *place) { must(t, "Fail", x.d.Fail(), api.OK) }, writes("a", 3, "x")},
		{"no power from the Force on", func(x *place) { x.d.Arm(0) }, writes("a", 3, "x")},
	} {
		x := placeOf(t, writes("abcdef", 2, "i"))
		x.gets(t, 2, 1, "cd", toRead)
		sent(t, "Ask", x.p.Ask(ask(2, "d", toWrite, 1)), grant(2, reg(1), "d", toWrite, 1, of(2, "i")))
		x.gets(t, 3, 2, "af", toWrite)
		x.gets(t, 3, 2, "bc", toRead)
		x.waits(t, 4, "b", toWrite)
		x.waits(t, 6, "f", toRead)
		x.waits(t, 5, "f", toRead)
		if c.do != nil {
			c.do(x)
		}
		sent(t, c.what, x.p.Prepare(prepare(3, reg(2), c.l)), vote(3, reg(2), voteNo), grant(4, reg(3), "b", toWrite, 4, x.item("b")),
			grant(5, reg(5), "f", toRead, 5, x.item("f")), grant(6, reg(4), "f", toRead, 6, x.item("f")))
		x.gone(t, 3)
		x.knows(t, [2]uint32{2, 1}, [2]uint32{4, 3}, [2]uint32{5, 5}, [2]uint32{6, 4})
		sent(t, c.what+" again", x.p.Prepare(prepare(3, reg(2), c.l)), vote(3, reg(2), voteNo))
	}
}

// A disk on which a store is opened can be too small to keep more.
func TestPrepareWithoutRoom(t *testing.T) {
	x := placeIn(t, 1200, writes("ab", 0, ""))
	x.gets(t, 2, 1, "ab", toWrite)
	x.waits(t, 3, "a", toRead)
	sent(t, "Prepare without room", x.p.Prepare(prepare(2, reg(1), writes("a", 1, "x"))), vote(2, reg(1), voteNo), grant(3, reg(2), "a", toRead, 3, of(0, "")))
	x.gone(t, 2)
}

// P17.4

func TestDecideToCommit(t *testing.T) {
	x := placeOf(t, writes("abcd", 0, ""))
	x.gets(t, 2, 1, "abd", toWrite)
	x.stages(t, 2, 1, writes("ab", 1, "x"))
	x.waits(t, 5, "d", toRead)
	x.waits(t, 4, "b", toWrite)
	x.waits(t, 3, "b", toRead)
	x.waits(t, 1, "a", toRead)
	// The Ack goes ahead of what is granted, with the items that were written.
	sent(t, "Decide", x.p.Decide(decide(2, toCommit)), ack(2), grant(1, reg(5), "a", toRead, 1, of(1, "x")), grant(3, reg(4), "b", toRead, 3, of(1, "x")),
		grant(5, reg(2), "d", toRead, 5, of(0, "")))
	x.gone(t, 2)
	if x.item("a") != of(1, "x") || x.item("b") != of(1, "x") || x.item("c") != of(0, "") {
		t.Fatal(x.s.Items())
	}
	was := x.seen()
	sent(t, "Decide again", x.p.Decide(decide(2, toCommit)), ack(2))
	sent(t, "Decide of one that was never known", x.p.Decide(decide(9, toCommit)), ack(9))
	sent(t, "Decide of a known one", x.p.Decide(decide(3, toCommit)), ack(3))
	sent(t, "Decide of one that waits", x.p.Decide(decide(4, toCommit)), ack(4))
	x.stays(t, "Decide", was)
}

// A Commit that the disk refuses leaves all as it is, and nothing is told.
func TestDecideToCommitWithoutPower(t *testing.T) {
	for _, armed := range []bool{false, true} {
		x := placeOf(t, writes("ab", 0, ""))
		x.gets(t, 2, 1, "ab", toWrite)
		x.stages(t, 2, 1, writes("a", 1, "x"))
		x.waits(t, 3, "a", toRead)
		if armed {
			x.d.Arm(0)
		} else {
			must(t, "Fail", x.d.Fail(), api.OK)
		}
		for range 3 {
			sent(t, "Decide", x.p.Decide(decide(2, toCommit)))
			x.staged(t, 2)
			x.uses(t, 2, 3)
			x.holds(t, 2, "", "ab")
			x.knows(t, [2]uint32{3, 2})
		}
		sent(t, "Decide of one that is not staged", x.p.Decide(decide(9, toCommit)), ack(9))
		x.again(t)
		x.holds(t, 2, "", "a")
		sent(t, "Decide", x.p.Decide(decide(2, toCommit)), ack(2))
		if x.item("a") != of(1, "x") {
			t.Fatal(x.item("a"))
		}
	}
}

func TestDecideToAbort(t *testing.T) {
	x := placeOf(t, writes("abc", 0, ""))
	x.gets(t, 2, 1, "ab", toWrite)
	x.stages(t, 2, 1, writes("a", 1, "x"))
	x.waits(t, 4, "b", toRead)
	x.waits(t, 3, "a", toWrite)
	sent(t, "Decide", x.p.Decide(decide(2, toAbort)), grant(3, reg(3), "a", toWrite, 3, of(0, "")), grant(4, reg(2), "b", toRead, 4, of(0, "")))
	x.gone(t, 2)
	was := x.seen()
	sent(t, "Decide again", x.p.Decide(decide(2, toAbort)))
	sent(t, "Decide of one that was never known", x.p.Decide(decide(9, toAbort)))
	x.stays(t, "Decide", was)
	// One that is known is forgotten, without a word to it; so is one that waits.
	x.waits(t, 5, "a", toRead)
	x.waits(t, 6, "a", toRead)
	sent(t, "Decide of one that waits", x.p.Decide(decide(5, toAbort)))
	x.gone(t, 5)
	sent(t, "Decide of a known one", x.p.Decide(decide(3, toAbort)), grant(6, reg(5), "a", toRead, 6, of(0, "")))
	x.gone(t, 3)
	x.knows(t, [2]uint32{4, 2}, [2]uint32{6, 5})
}

// An Abort that the disk refuses does nothing; one that is known is forgotten without the disk.
func TestDecideToAbortWithoutPower(t *testing.T) {
	x := placeOf(t, writes("abc", 0, ""))
	x.gets(t, 2, 1, "ab", toWrite)
	x.stages(t, 2, 1, writes("a", 1, "x"))
	x.gets(t, 3, 2, "c", toWrite)
	x.waits(t, 4, "a", toRead)
	x.waits(t, 5, "c", toRead)
	must(t, "Fail", x.d.Fail(), api.OK)
	was := x.seen()
	sent(t, "Decide", x.p.Decide(decide(2, toAbort)))
	x.stays(t, "Decide", was)
	sent(t, "Decide of a known one", x.p.Decide(decide(3, toAbort)), grant(5, reg(4), "c", toRead, 5, of(0, "")))
	x.gone(t, 3)
	x.again(t)
	sent(t, "Decide", x.p.Decide(decide(2, toAbort)))
	x.gone(t, 2)
}

// Aborting needs no Force.
func TestDecideToAbortWithAFuse(t *testing.T) {
	x := placeOf(t, writes("a", 0, ""))
	x.gets(t, 2, 1, "a", toWrite)
	x.stages(t, 2, 1, writes("a", 1, "x"))
	x.waits(t, 3, "a", toRead)
	x.d.Arm(0)
	sent(t, "Decide", x.p.Decide(decide(2, toAbort)), grant(3, reg(2), "a", toRead, 3, of(0, "")))
	x.gone(t, 2)
}

// P17.5

func TestFresh(t *testing.T) {
	x := placeOf(t, writes("abc", 2, "i"))
	x.gets(t, 2, 1, "a", toWrite)
	x.gets(t, 3, 2, "b", toRead)
	x.stages(t, 2, 1, writes("a", 5, "x"))
	// Locks are not asked.
	for _, c := range []struct {
		num  uint32
		k    string
		i    api.Item
		want api.Item
	}{
		{2, "a", of(3, "y"), of(3, "y")},
		{9, "b", of(most, long(64)), of(most, long(64))},
		{9, "b", of(most, long(64)), of(most, long(64))},
		{7, "c", of(1, "old"), of(2, "i")},
		{7, "c", of(2, "i"), of(2, "i")},
		{7, "c", api.Item{Version: 3, Conf: conf(9)}, api.Item{Version: 3, Conf: conf(9)}},
	} {
		sent(t, "Fresh", x.p.Fresh(fresh(c.num, c.k, c.i)), kept(c.num, c.k))
		if got := x.item(c.k); got != c.want {
			t.Fatalf("%s is %v; want %v", c.k, got, c.want)
		}
	}
	x.staged(t, 2)
	x.holds(t, 2, "", "a")
	x.knows(t, [2]uint32{3, 2})
}

func TestFreshThatIsRefused(t *testing.T) {
	x := placeOf(t, writes("abc", 2, "i"))
	was := x.seen()
	sent(t, "Fresh of another one as new", x.p.Fresh(fresh(1, "a", of(2, "y"))))
	sent(t, "Fresh of no key", x.p.Fresh(fresh(1, "d", of(3, "y"))))
	sent(t, "Fresh of no key", x.p.Fresh(fresh(1, "aa", of(3, "y"))))
	x.stays(t, "Fresh", was)
	must(t, "Fail", x.d.Fail(), api.OK)
	sent(t, "Fresh without power", x.p.Fresh(fresh(1, "a", of(3, "y"))))
	sent(t, "Fresh of an old one, without power", x.p.Fresh(fresh(1, "a", of(1, "y"))), kept(1, "a"))
	if x.item("a") != of(2, "i") {
		t.Fatal(x.item("a"))
	}
	x = placeIn(t, 1200, writes("a", 0, ""))
	sent(t, "Fresh without room", x.p.Fresh(fresh(1, "a", of(3, "y"))))
}

func TestLate(t *testing.T) {
	x := placeOf(t, writes("abcd", 0, ""))
	x.gets(t, 2, 1, "a", toWrite)
	x.stages(t, 2, 1, writes("a", 1, "x"))
	x.gets(t, 3, 2, "bc", toWrite)
	x.waits(t, 5, "c", toRead)
	x.waits(t, 4, "b", toRead)
	x.waits(t, 5, "a", toWrite)
	was := x.seen()
	for range 3 {
		sent(t, "Late of a staged one", x.p.Late(tx(2)), inquire(2))
		for _, y := range []api.Tx{tx(9), {}, {Node: 255}, {Node: 3, Boot: 2, Num: 3}, {Node: 2, Boot: 1, Num: 3}} {
			sent(t, "Late of one that is not known", x.p.Late(y))
		}
		x.stays(t, "Late", was)
	}
	sent(t, "Late of a known one", x.p.Late(tx(3)), wound(3, reg(2)), grant(4, reg(4), "b", toRead, 4, of(0, "")), grant(5, reg(3), "c", toRead, 5, of(0, "")))
	x.gone(t, 3)
	sent(t, "Late again", x.p.Late(tx(3)))
	sent(t, "Late of one that waits", x.p.Late(tx(5)), wound(5, reg(3)))
	x.gone(t, 5)
	x.again(t)
	sent(t, "Late of one that is staged again", x.p.Late(tx(2)), inquire(2))
	sent(t, "Late of one that was known", x.p.Late(tx(4)))
}

// Messages that may not be, and those that other calls are for.

func TestMessagesThatMayNotBe(t *testing.T) {
	x := placeOf(t, writes("abc", 0, ""))
	x.gets(t, 2, 1, "a", toWrite)
	x.gets(t, 3, 2, "b", toWrite)
	x.stages(t, 3, 2, writes("b", 1, "x"))
	x.waits(t, 4, "a", toRead)
	was := x.seen()
	good := []msg.Msg{
		ask(5, "c", toRead, 1), ask(2, "a", toWrite, 1), ask(5, "d", toRead, 1), ask(3, "b", toWrite, 1),
		prepare(2, reg(1), writes("a", 1, "x")), prepare(2, reg(1), nil), prepare(3, reg(2), writes("b", 1, "x")), prepare(9, reg(2), nil),
		decide(3, toCommit), decide(3, toAbort), decide(2, toAbort), decide(9, toCommit),
		fresh(9, "a", of(1, "y")), fresh(9, "c", of(0, "")),
	}
	for _, m := range good {
		bad := badMessages(m)
		if len(bad) < 10 {
			t.Fatalf("just %d are made of %v", len(bad), m)
		}
		for _, m := range bad {
			sent(t, "what may not be", calls(x.p)[m.Kind](m))
			x.stays(t, "what may not be", was)
		}
		for kind, call := range calls(x.p) {
			if kind != m.Kind {
				sent(t, "another kind", call(m))
				x.stays(t, "another kind", was)
			}
		}
	}
	for _, call := range calls(x.p) {
		for kind := range 256 {
			if kind != msg.Ask && kind != msg.Prepare && kind != msg.Decide && kind != msg.Fresh {
				sent(t, "another kind", call(msg.Msg{Kind: uint8(kind), Tx: tx(3), Reg: reg(2)}))
				sent(t, "another kind", call(msg.Msg{Kind: uint8(kind), Tx: tx(3)}))
			}
		}
		sent(t, "another kind", call(msg.Msg{Kind: msg.Grant, Tx: tx(3), Reg: reg(2), Key: key("b"), Mode: toWrite, Item: of(0, "")}))
		sent(t, "another kind", call(msg.Msg{Kind: msg.Vote, Tx: tx(3), Reg: reg(2), Yes: 1}))
	}
	x.stays(t, "another kind", was)
}

func TestPartsThatNobodyGave(t *testing.T) {
	for _, p := range []*part.Part{nil, {}, new(part.Part)} {
		for range 2 {
			for _, m := range []msg.Msg{{}, ask(1, "a", toRead, 1), prepare(1, reg(1), nil), prepare(1, reg(1), writes("a", 1, "")),
				decide(1, toCommit), decide(1, toAbort), fresh(1, "a", of(1, ""))} {
				for _, call := range calls(p) {
					sent(t, "a call", call(m))
				}
			}
			sent(t, "Late", p.Late(tx(1)))
			g, is := p.Reg(tx(1))
			if len(p.Known()) != 0 || len(p.Users()) != 0 || g != (api.Reg{}) || is || p.Holds(tx(1), key("a")) != 0 {
				t.Fatal(p.Known(), p.Users(), g, is, p.Holds(tx(1), key("a")))
			}
		}
	}
}

// A store that nobody opened has no item, stages nothing, and keeps nothing.
func TestPartsOfNoStore(t *testing.T) {
	for _, s := range []*store.Store{nil, {}} {
		p := part.New(s)
		for range 2 {
			sent(t, "Ask", p.Ask(ask(1, "a", toRead, 4)), refuse(1, 4, api.ErrNone))
			sent(t, "Prepare", p.Prepare(prepare(1, reg(1), writes("a", 1, ""))), vote(1, reg(1), voteNo))
			sent(t, "Decide", p.Decide(decide(1, toCommit)), ack(1))
			sent(t, "Decide", p.Decide(decide(1, toAbort)))
			sent(t, "Fresh", p.Fresh(fresh(1, "a", of(1, ""))))
			sent(t, "Late", p.Late(tx(1)))
			if len(p.Known()) != 0 || len(p.Users()) != 0 {
				t.Fatal(p.Known(), p.Users())
			}
		}
	}
}

// R4

func TestListsThatAreHandedIn(t *testing.T) {
	x := placeOf(t, writes("ab", 0, ""))
	x.gets(t, 2, 1, "ab", toWrite)
	l := append(make([]api.Write, 0, 9), writes("ab", 1, "x")...)
	x.stages(t, 2, 1, l)
	if !slices.Equal(l, writes("ab", 1, "x")) {
		t.Fatal("it wrote into what it was handed")
	}
	clear(l[:cap(l)])
	sent(t, "Decide", x.p.Decide(decide(2, toCommit)), ack(2))
	if x.item("a") != of(1, "x") || x.item("b") != of(1, "x") {
		t.Fatal(x.s.Items())
	}
}

func TestListsAreTheCallers(t *testing.T) {
	x := placeOf(t, writes("ab", 0, ""))
	x.gets(t, 2, 1, "a", toWrite)
	x.gets(t, 3, 2, "b", toWrite)
	was := x.seen()
	for range 2 {
		known, users := x.p.Known(), x.p.Users()
		clear(known[:cap(known)])
		clear(users[:cap(users)])
		l := x.p.Ask(ask(2, "a", toRead, 1))
		clear(l[:cap(l)])
		x.stays(t, "writing into an answer", was)
	}
}
