package lock_test

import (
	"slices"
	"testing"

	"parrel/api"
	"parrel/lock"
)

// Example 1 of the chapter.
func TestExample(t *testing.T) {
	l := lock.New()
	has(t, l, 5, "a", toRead)
	out, why := l.Ask(aged(3), key("a"), toWrite)
	answered(t, "Ask", out, why, lock.Out{Wounded: []api.Tx{aged(5).Tx}, Granted: []lock.Got{got(3, "a", toWrite)}}, api.OK)
	holds(t, l, 3, "", "a")
	isNone(t, l, aged(5).Tx)
}

// P15.1

func TestNew(t *testing.T) {
	x, y := lock.New(), lock.New()
	if x == nil || y == nil || x == y {
		t.Fatal(x, y)
	}
	usersAre(t, x)
	has(t, x, 1, "a", toWrite)
	usersAre(t, y)
	isNone(t, y, aged(1).Tx)
	has(t, y, 2, "a", toWrite)
}

func TestAskOfOne(t *testing.T) {
	for _, x := range goodTxs() {
		for _, time := range []uint32{0, 1, most} {
			for _, k := range goodKeys() {
				for mode := uint8(toRead); mode <= toWrite; mode++ {
					l := lock.New()
					out, why := l.Ask(api.Stamp{Time: time, Tx: x}, k, mode)
					answered(t, "Ask", out, why, grants(lock.Got{Tx: x, Key: k, Mode: mode}), api.OK)
					if l.Mode(x, k) != mode || l.Waits(x) || l.Prepared(x) || !slices.Equal(l.Users(), []api.Tx{x}) || len(l.Queue(k)) != 0 {
						t.Fatal(l.Mode(x, k), l.Waits(x), l.Prepared(x), l.Users(), l.Queue(k))
					}
				}
			}
		}
	}
}

// What may not be is refused ahead of all else: in an empty table, a full one, and of a user that is prepared.
func TestAskOfWhatMayNotBe(t *testing.T) {
	one := lock.New()
	has(t, one, 1, "z", toWrite)
	prepared(t, one, 1, lock.Out{})
	empty, all := lock.New(), full(t)
	refused := func(s api.Stamp, k api.Key, mode uint8) {
		t.Helper()
		for _, l := range []*lock.Table{empty, one, all} {
			out, why := l.Ask(s, k, mode)
			answered(t, "Ask", out, why, lock.Out{}, api.ErrArg)
		}
	}
	for _, s := range badStamps() {
		refused(s, key("z"), toRead)
		refused(s, key("z"), toWrite)
		refused(s, api.Key{}, 0)
	}
	for _, s := range []api.Stamp{aged(1), aged(2), aged(99), at(0, 1), at(most, 1)} {
		for _, k := range badKeys() {
			refused(s, k, toRead)
			refused(s, k, toWrite)
		}
		for mode := range 256 {
			if mode != toRead && mode != toWrite {
				refused(s, key("z"), uint8(mode))
				refused(s, key("a"), uint8(mode))
			}
		}
	}
	usersAre(t, empty)
	usersAre(t, one, 1)
	holds(t, one, 1, "", "z")
	if got := len(all.Users()); got != mostUsers {
		t.Fatal(got)
	}
	queueIs(t, one, "z")
}

// Who is prepared gets no more, though it hold what it asks for.
func TestAskOfAPreparedOne(t *testing.T) {
	l := full(t)
	has(t, l, 7, "z", toWrite)
	prepared(t, l, 7, lock.Out{})
	released(t, l, 8, lock.Out{})
	must(t, "Restore", l.Restore(aged(8).Tx, key("y")), api.OK)
	for _, num := range []uint32{7, 8} {
		for _, k := range []string{"a", "y", "z"} {
			for mode := uint8(toRead); mode <= toWrite; mode++ {
				for _, time := range []uint32{0, num, most} {
					out, why := l.Ask(at(time, num), key(k), mode)
					answered(t, "Ask", out, why, lock.Out{}, api.ErrState)
				}
			}
		}
	}
	holds(t, l, 7, "", "z")
	holds(t, l, 8, "", "y")
}

func TestAskOfVeryMany(t *testing.T) {
	l := full(t)
	for range 2 {
		for _, s := range []api.Stamp{at(0, 99), at(1, 99), at(most, 99), {Time: 3, Tx: tx(0, 1, 1)}, {Time: 3, Tx: tx(7, most, most)}} {
			out, why := l.Ask(s, key("a"), toRead)
			answered(t, "Ask of one more", out, why, lock.Out{}, api.ErrMany)
			// Though it would wound one, and there would be room then.
			out, why = l.Ask(s, key("k\x05"), toWrite)
			answered(t, "Ask of one more", out, why, lock.Out{}, api.ErrMany)
			isNone(t, l, s.Tx)
		}
	}
	if l.Mode(aged(5).Tx, key("k\x05")) != toRead {
		t.Fatal("an ask that was refused wounded")
	}
	for n := range uint32(mostUsers) {
		asked(t, l, aged(n+1), "a", toRead, grants(got(n+1, "a", toRead)))
	}
	released(t, l, 64, lock.Out{})
	has(t, l, 99, "b", toWrite)
	out, why := l.Ask(aged(64), key("c"), toRead)
	answered(t, "Ask of one more", out, why, lock.Out{}, api.ErrMany)
}

// Who waits, is prepared, or was restored is a user too.
func TestAskCountsAllUsers(t *testing.T) {
	l := lock.New()
	has(t, l, 1, "a", toWrite)
	for n := range uint32(40) {
		waits(t, l, n+2, "a", toWrite)
	}
	for n := range uint32(10) {
		has(t, l, n+50, "b", toRead)
	}
	for n := range uint32(10) {
		prepared(t, l, n+50, lock.Out{})
	}
	for n := range uint32(mostUsers - 51) {
		must(t, "Restore", l.Restore(aged(n+70).Tx, key("r"+string([]byte{byte(n + 1)}))), api.OK)
	}
	out, why := l.Ask(aged(99), key("c"), toRead)
	answered(t, "Ask of one more", out, why, lock.Out{}, api.ErrMany)
	released(t, l, 50, lock.Out{})
	has(t, l, 99, "c", toRead)
}

// Who has a lock in this mode, or a greater one, is answered nothing, though it wait for more.
func TestAskOfWhatIsHeld(t *testing.T) {
	for held := uint8(toRead); held <= toWrite; held++ {
		for mode := uint8(toRead); mode <= held; mode++ {
			l := lock.New()
			has(t, l, 5, "a", held)
			asked(t, l, aged(5), "a", mode, lock.Out{})
			if l.Waits(aged(5).Tx) || l.Mode(aged(5).Tx, key("a")) != held {
				t.Fatal(l.Waits(aged(5).Tx), l.Mode(aged(5).Tx, key("a")))
			}
			queueIs(t, l, "a")
		}
	}
	l := lock.New()
	has(t, l, 1, "a", toRead)
	has(t, l, 2, "a", toRead)
	waits(t, l, 2, "a", toWrite)
	asked(t, l, aged(2), "a", toRead, lock.Out{})
	queueIs(t, l, "a", 2)
}

// What becomes of an ask hangs on both modes, and on who is older: all cases of two users.
func TestAskOfTwo(t *testing.T) {
	for held := uint8(toRead); held <= toWrite; held++ {
		for mode := uint8(toRead); mode <= toWrite; mode++ {
			l := lock.New()
			has(t, l, 5, "a", held)
			switch {
			case held == toRead && mode == toRead:
				has(t, l, 3, "a", mode)
				has(t, l, 7, "a", mode)
				holds(t, l, 5, "a", "")
				queueIs(t, l, "a")
			default:
				waits(t, l, 7, "a", mode)
				queueIs(t, l, "a", 7)
				if l.Mode(aged(5).Tx, key("a")) != held || l.Mode(aged(7).Tx, key("a")) != 0 {
					t.Fatal("the younger one took it")
				}
				released(t, l, 7, lock.Out{})
				asked(t, l, aged(3), "a", mode, lock.Out{Wounded: []api.Tx{aged(5).Tx}, Granted: []lock.Got{got(3, "a", mode)}})
				usersAre(t, l, 3)
				isNone(t, l, aged(5).Tx)
			}
		}
	}
}

// Who reads and asks to write: alone it is granted, younger readers are wounded, older ones are waited for.
func TestAskForMore(t *testing.T) {
	l := lock.New()
	has(t, l, 5, "a", toRead)
	has(t, l, 5, "a", toWrite)
	holds(t, l, 5, "", "a")
	queueIs(t, l, "a")

	l = lock.New()
	for _, num := range []uint32{9, 5, 7, 3} {
		has(t, l, num, "a", toRead)
	}
	asked(t, l, aged(5), "a", toWrite, wounds(aged(7).Tx, aged(9).Tx))
	usersAre(t, l, 3, 5)
	holds(t, l, 3, "a", "")
	holds(t, l, 5, "a", "")
	queueIs(t, l, "a", 5)
	released(t, l, 3, grants(got(5, "a", toWrite)))
	holds(t, l, 5, "", "a")
	queueIs(t, l, "a")

	// Two that read, and both ask to write: the older one has it.
	l = lock.New()
	has(t, l, 5, "a", toRead)
	has(t, l, 3, "a", toRead)
	waits(t, l, 5, "a", toWrite)
	asked(t, l, aged(3), "a", toWrite, lock.Out{Wounded: []api.Tx{aged(5).Tx}, Granted: []lock.Got{got(3, "a", toWrite)}})
	usersAre(t, l, 3)
	queueIs(t, l, "a")
}

// Who waits for a key and asks for it again waits in the greater one of both modes, and stands there once.
func TestAskOfOneThatWaits(t *testing.T) {
	for first := uint8(toRead); first <= toWrite; first++ {
		for second := uint8(toRead); second <= toWrite; second++ {
			l := lock.New()
			has(t, l, 1, "a", toWrite)
			waits(t, l, 5, "a", first)
			waits(t, l, 5, "a", second)
			waits(t, l, 7, "a", toRead)
			queueIs(t, l, "a", 5, 7)
			if mode := max(first, second); mode == toWrite {
				released(t, l, 1, grants(got(5, "a", mode)))
				queueIs(t, l, "a", 7)
			} else {
				released(t, l, 1, grants(got(5, "a", mode), got(7, "a", toRead)))
				queueIs(t, l, "a")
			}
		}
	}
}

// A user may wait for several keys, and has each as it comes.
func TestAskForSeveralKeys(t *testing.T) {
	l := lock.New()
	has(t, l, 1, "a", toWrite)
	has(t, l, 2, "b", toWrite)
	waits(t, l, 5, "b", toRead)
	waits(t, l, 5, "a", toWrite)
	has(t, l, 5, "c", toWrite)
	queueIs(t, l, "a", 5)
	queueIs(t, l, "b", 5)
	released(t, l, 2, grants(got(5, "b", toRead)))
	if !l.Waits(aged(5).Tx) {
		t.Fatal("it waits for a no more")
	}
	released(t, l, 1, grants(got(5, "a", toWrite)))
	if l.Waits(aged(5).Tx) {
		t.Fatal("it waits")
	}
	holds(t, l, 5, "b", "ac")
}

// The stamp of a user is the one that it asked with first: a later one makes it neither older nor younger.
func TestAskKeepsTheFirstStamp(t *testing.T) {
	l := lock.New()
	has(t, l, 5, "a", toWrite)
	has(t, l, 7, "b", toRead)
	asked(t, l, at(1, 7), "a", toWrite, lock.Out{})
	queueIs(t, l, "a", 7)
	waits(t, l, 6, "a", toWrite)
	queueIs(t, l, "a", 6, 7)
	asked(t, l, at(0, 7), "a", toWrite, lock.Out{})
	queueIs(t, l, "a", 6, 7)
	usersAre(t, l, 5, 6, 7)

	has(t, l, 3, "c", toRead)
	asked(t, l, at(most, 3), "a", toWrite, lock.Out{Wounded: []api.Tx{aged(5).Tx}, Granted: []lock.Got{got(3, "a", toWrite)}})

	// Once it is no user it has no stamp any more.
	released(t, l, 7, lock.Out{})
	asked(t, l, at(1, 7), "a", toWrite, lock.Out{Wounded: []api.Tx{aged(3).Tx}, Granted: []lock.Got{got(7, "a", toWrite)}})
	asked(t, l, at(0, 6), "a", toRead, lock.Out{})
	queueIs(t, l, "a", 6)
}

// One that was wounded may ask anew, and is as old as it says then.
func TestAskOfOneThatWasWounded(t *testing.T) {
	l := lock.New()
	has(t, l, 9, "a", toWrite)
	has(t, l, 9, "b", toWrite)
	asked(t, l, aged(5), "a", toWrite, lock.Out{Wounded: []api.Tx{aged(9).Tx}, Granted: []lock.Got{got(5, "a", toWrite)}})
	isNone(t, l, aged(9).Tx)
	asked(t, l, at(2, 9), "a", toRead, lock.Out{Wounded: []api.Tx{aged(5).Tx}, Granted: []lock.Got{got(9, "a", toRead)}})
	holds(t, l, 9, "a", "")
	usersAre(t, l, 9)
}

// Of one time the lesser name is the older one: by the node, the boot, the number; of several times the time alone tells.
func TestAskOfOneTime(t *testing.T) {
	list := goodTxs()
	for n, older := range list {
		for _, younger := range list[n+1:] {
			for _, time := range []uint32{0, 4, most} {
				l := lock.New()
				l.Ask(api.Stamp{Time: time, Tx: younger}, key("a"), toRead)
				out, why := l.Ask(api.Stamp{Time: time, Tx: older}, key("a"), toWrite)
				answered(t, "Ask", out, why, lock.Out{Wounded: []api.Tx{younger}, Granted: []lock.Got{{Tx: older, Key: key("a"), Mode: toWrite}}}, api.OK)
				out, why = l.Ask(api.Stamp{Time: time, Tx: younger}, key("a"), toRead)
				answered(t, "Ask", out, why, lock.Out{}, api.OK)
			}
			l := lock.New()
			l.Ask(api.Stamp{Time: 4, Tx: older}, key("a"), toRead)
			out, why := l.Ask(api.Stamp{Time: 3, Tx: younger}, key("a"), toWrite)
			answered(t, "Ask", out, why, lock.Out{Wounded: []api.Tx{older}, Granted: []lock.Got{{Tx: younger, Key: key("a"), Mode: toWrite}}}, api.OK)
		}
	}
}

// All that a wounded one had goes, and what others waited for is granted: key by key, and of a key the older ones first.
func TestWoundedOnesLoseAll(t *testing.T) {
	l := lock.New()
	for _, k := range []string{"d", "b", "m", "c"} {
		has(t, l, 6, k, toWrite)
	}
	has(t, l, 2, "w", toWrite)
	waits(t, l, 6, "w", toRead)
	has(t, l, 6, "a", toRead)
	waits(t, l, 9, "d", toRead)
	waits(t, l, 7, "d", toRead)
	waits(t, l, 8, "b", toWrite)
	waits(t, l, 9, "b", toRead)
	waits(t, l, 7, "c", toRead)
	waits(t, l, 8, "c", toWrite)
	waits(t, l, 9, "c", toRead)
	asked(t, l, aged(5), "m", toRead, lock.Out{
		Wounded: []api.Tx{aged(6).Tx},
		Granted: []lock.Got{got(8, "b", toWrite), got(7, "c", toRead), got(7, "d", toRead), got(9, "d", toRead), got(5, "m", toRead)},
	})
	isNone(t, l, aged(6).Tx)
	usersAre(t, l, 2, 5, 7, 8, 9)
	holds(t, l, 5, "m", "")
	holds(t, l, 7, "cd", "")
	holds(t, l, 8, "", "b")
	holds(t, l, 9, "d", "")
	queueIs(t, l, "b", 9)
	queueIs(t, l, "c", 8, 9)
	queueIs(t, l, "w")
}

// A wait of a wounded one goes too: who waited behind it is granted.
func TestWaitsOfWoundedOnesGo(t *testing.T) {
	l := lock.New()
	has(t, l, 1, "a", toRead)
	has(t, l, 6, "z", toRead)
	waits(t, l, 6, "a", toWrite)
	waits(t, l, 9, "a", toRead)
	waits(t, l, 8, "a", toRead)
	asked(t, l, aged(3), "z", toWrite, lock.Out{
		Wounded: []api.Tx{aged(6).Tx},
		Granted: []lock.Got{got(8, "a", toRead), got(9, "a", toRead), got(3, "z", toWrite)},
	})
	queueIs(t, l, "a")
}

// However they came, the wounded ones are told the older ones first.
func TestWoundedOnesAreTold(t *testing.T) {
	var nums []uint32
	var want []api.Tx
	for num := uint32(2); num <= mostUsers; num++ {
		nums = append(nums, num)
		want = append(want, api.Tx{Node: 7, Boot: 1, Num: 100 - num})
	}
	row := chance(5)
	for range 50 {
		l := lock.New()
		for _, num := range shuffled(&row, nums) {
			// Their names fall as their times rise.
			l.Ask(api.Stamp{Time: num, Tx: tx(7, 1, 100-num)}, key("a"), toRead)
		}
		out, why := l.Ask(aged(1), key("a"), toWrite)
		answered(t, "Ask", out, why, lock.Out{Wounded: want, Granted: []lock.Got{got(1, "a", toWrite)}}, api.OK)
	}
}

// Wounded is who is younger, is not prepared, and holds a lock on the key that does not go together with the wait: nobody else.
func TestNobodyElseIsWounded(t *testing.T) {
	l := lock.New()
	has(t, l, 3, "a", toRead)
	has(t, l, 8, "a", toRead)
	asked(t, l, aged(6), "a", toWrite, wounds(aged(8).Tx)) // 3 is older
	usersAre(t, l, 3, 6)

	l = lock.New()
	has(t, l, 9, "a", toWrite)
	prepared(t, l, 9, lock.Out{})
	waits(t, l, 2, "a", toWrite)
	waits(t, l, 1, "a", toRead)
	must(t, "Restore", l.Restore(aged(8).Tx, key("b")), api.OK)
	waits(t, l, 2, "b", toRead)
	asked(t, l, at(0, 1), "b", toWrite, lock.Out{})
	usersAre(t, l, 1, 2, 8, 9)

	l = lock.New()
	has(t, l, 8, "a", toRead)
	has(t, l, 2, "a", toRead) // both to read
	usersAre(t, l, 2, 8)

	l = lock.New()
	has(t, l, 1, "a", toWrite)
	waits(t, l, 7, "a", toWrite)
	waits(t, l, 4, "a", toWrite) // 7 waits, and holds nothing
	usersAre(t, l, 1, 4, 7)
	queueIs(t, l, "a", 4, 7)

	l = lock.New()
	has(t, l, 8, "a", toWrite)
	for _, k := range []string{"b", "aa", "a\x01", "A"} {
		has(t, l, 2, k, toWrite) // other keys
	}
	usersAre(t, l, 2, 8)
}

// An older wait holds back what does not go together with it: who is younger does not overtake it, who is older does.
func TestOlderWaitsComeFirst(t *testing.T) {
	l := lock.New()
	has(t, l, 1, "a", toRead)
	waits(t, l, 5, "a", toWrite)
	waits(t, l, 6, "a", toRead)
	waits(t, l, 9, "a", toWrite)
	waits(t, l, 8, "a", toRead)
	has(t, l, 3, "a", toRead)
	queueIs(t, l, "a", 5, 6, 8, 9)
	released(t, l, 1, lock.Out{})
	released(t, l, 3, grants(got(5, "a", toWrite)))
	queueIs(t, l, "a", 6, 8, 9)
	released(t, l, 5, grants(got(6, "a", toRead), got(8, "a", toRead)))
	queueIs(t, l, "a", 9)
	released(t, l, 8, lock.Out{})
	released(t, l, 6, grants(got(9, "a", toWrite)))
	released(t, l, 9, lock.Out{})
	usersAre(t, l)
}

// Of waits to read one that is granted holds no other one back, and one to write behind it goes on waiting.
func TestWaitsToReadAreGrantedTogether(t *testing.T) {
	l := lock.New()
	has(t, l, 1, "a", toWrite)
	for _, num := range []uint32{7, 3, 5} {
		waits(t, l, num, "a", toRead)
	}
	waits(t, l, 6, "a", toWrite)
	released(t, l, 1, grants(got(3, "a", toRead), got(5, "a", toRead)))
	queueIs(t, l, "a", 6, 7)
}

// P15.2

func TestPrepare(t *testing.T) {
	l := lock.New()
	has(t, l, 3, "b", toRead)
	has(t, l, 3, "c", toWrite)
	has(t, l, 3, "a", toRead)
	has(t, l, 3, "d", toRead)
	has(t, l, 3, "d", toWrite)
	waits(t, l, 9, "b", toWrite)
	waits(t, l, 8, "b", toWrite)
	waits(t, l, 7, "a", toWrite)
	waits(t, l, 6, "c", toRead)
	waits(t, l, 6, "d", toRead)
	prepared(t, l, 3, grants(got(7, "a", toWrite), got(8, "b", toWrite)))
	holds(t, l, 3, "", "cd")
	queueIs(t, l, "b", 9)
	queueIs(t, l, "c", 6)
	usersAre(t, l, 3, 6, 7, 8, 9)
	for range 3 {
		prepared(t, l, 3, lock.Out{})
	}
	holds(t, l, 3, "", "cd")
	for _, num := range []uint32{6, 7, 8, 9} {
		if l.Prepared(aged(num).Tx) {
			t.Fatal(num, "is prepared")
		}
	}
	waits(t, l, 1, "c", toRead)
	released(t, l, 3, grants(got(1, "c", toRead), got(6, "c", toRead), got(6, "d", toRead)))
}

// One that just read has no lock any more, and is a user until it is released.
func TestPrepareOfOneThatReads(t *testing.T) {
	l := lock.New()
	has(t, l, 3, "a", toRead)
	has(t, l, 5, "a", toRead)
	prepared(t, l, 5, lock.Out{})
	usersAre(t, l, 3, 5)
	holds(t, l, 5, "", "")
	has(t, l, 3, "a", toWrite)
	usersAre(t, l, 3, 5)
	out, why := l.Ask(aged(5), key("b"), toRead)
	answered(t, "Ask", out, why, lock.Out{}, api.ErrState)
	must(t, "Restore", l.Restore(aged(5).Tx, key("b")), api.ErrThere)
	released(t, l, 5, lock.Out{})
	has(t, l, 5, "b", toRead)
}

func TestPrepareOfOneThatWaits(t *testing.T) {
	l := lock.New()
	has(t, l, 1, "b", toRead)
	has(t, l, 3, "a", toRead)
	has(t, l, 3, "b", toRead)
	has(t, l, 3, "c", toWrite)
	waits(t, l, 3, "b", toWrite)
	for range 2 {
		out, why := l.Prepare(aged(3).Tx)
		answered(t, "Prepare", out, why, lock.Out{}, api.ErrState)
		if l.Prepared(aged(3).Tx) || !l.Waits(aged(3).Tx) {
			t.Fatal("what was refused turned it")
		}
		holds(t, l, 3, "ab", "c")
		queueIs(t, l, "b", 3)
	}
	released(t, l, 1, grants(got(3, "b", toWrite)))
	prepared(t, l, 3, lock.Out{})
	holds(t, l, 3, "", "bc")
}

func TestPrepareAndReleaseOfNone(t *testing.T) {
	l := lock.New()
	has(t, l, 3, "a", toRead)
	for _, x := range append(append(goodTxs(), badTxs()...), tx(0, 1, 3), tx(2, 1, 3), tx(1, 2, 3), tx(1, 1, 2), tx(1, 1, 4)) {
		for _, table := range []*lock.Table{l, lock.New()} {
			out, why := table.Prepare(x)
			answered(t, "Prepare", out, why, lock.Out{}, api.ErrNone)
			out, why = table.Release(x)
			answered(t, "Release", out, why, lock.Out{}, api.ErrNone)
			isNone(t, table, x)
		}
	}
	usersAre(t, l, 3)
	holds(t, l, 3, "a", "")
}

func TestRelease(t *testing.T) {
	l := lock.New()
	has(t, l, 2, "w", toWrite)
	has(t, l, 3, "c", toRead)
	has(t, l, 3, "a", toWrite)
	has(t, l, 3, "b", toWrite)
	waits(t, l, 3, "w", toWrite)
	waits(t, l, 9, "b", toRead)
	waits(t, l, 8, "b", toRead)
	waits(t, l, 9, "c", toWrite)
	waits(t, l, 7, "a", toWrite)
	waits(t, l, 8, "a", toRead)
	waits(t, l, 9, "w", toWrite)
	released(t, l, 3, grants(got(7, "a", toWrite), got(8, "b", toRead), got(9, "b", toRead), got(9, "c", toWrite)))
	usersAre(t, l, 2, 7, 8, 9)
	queueIs(t, l, "a", 8)
	queueIs(t, l, "w", 9)
	out, why := l.Release(aged(3).Tx)
	answered(t, "Release again", out, why, lock.Out{}, api.ErrNone)
	asked(t, l, aged(3), "c", toRead, lock.Out{Wounded: []api.Tx{aged(9).Tx}, Granted: []lock.Got{got(3, "c", toRead)}})
}

// Who waits and is released holds nobody back any more.
func TestReleaseOfOneThatWaits(t *testing.T) {
	l := lock.New()
	has(t, l, 1, "a", toRead)
	waits(t, l, 5, "a", toWrite)
	waits(t, l, 7, "a", toRead)
	released(t, l, 5, grants(got(7, "a", toRead)))
	queueIs(t, l, "a")
	holds(t, l, 1, "a", "")
}

func TestRestore(t *testing.T) {
	for _, x := range goodTxs() {
		l := lock.New()
		must(t, "Restore", l.Restore(x, goodKeys()...), api.OK)
		for _, k := range goodKeys() {
			if l.Mode(x, k) != toWrite {
				t.Fatal(x, k, l.Mode(x, k))
			}
		}
		if !l.Prepared(x) || l.Waits(x) || !slices.Equal(l.Users(), []api.Tx{x}) {
			t.Fatal(l.Prepared(x), l.Waits(x), l.Users())
		}
		out, why := l.Prepare(x)
		answered(t, "Prepare", out, why, lock.Out{}, api.OK)
		oldest := api.Stamp{Time: 0, Tx: tx(3, 3, 3)}
		out, why = l.Ask(oldest, goodKeys()[4], toRead)
		answered(t, "Ask", out, why, lock.Out{}, api.OK)
		out, why = l.Release(x)
		answered(t, "Release", out, why, grants(lock.Got{Tx: oldest.Tx, Key: goodKeys()[4], Mode: toRead}), api.OK)
		isNone(t, l, x)
	}
}

// What may not be is refused ahead of all else: in an empty table, a full one, and where the keys are held.
func TestRestoreOfWhatMayNotBe(t *testing.T) {
	one := lock.New()
	has(t, one, 1, "a", toWrite)
	empty, all := lock.New(), full(t)
	refused := func(x api.Tx, keys ...api.Key) {
		t.Helper()
		for _, l := range []*lock.Table{empty, one, all} {
			must(t, "Restore", l.Restore(x, keys...), api.ErrArg)
		}
	}
	for _, x := range badTxs() {
		refused(x, key("b"))
		refused(x, key("a"))
		refused(x)
	}
	for _, x := range append(goodTxs(), aged(1).Tx, aged(99).Tx) {
		refused(x)
		refused(x, []api.Key{}...)
		for _, k := range badKeys() {
			refused(x, k)
			refused(x, k, key("b"))
			refused(x, key("a"), k)
			refused(x, key("b"), key("c"), k, key("d"))
		}
		for _, twice := range []string{"aa", "bb", "bcb", "bcc", "bbc", "zyxwvbcdefgz"} {
			var keys []api.Key
			for n := range len(twice) {
				keys = append(keys, api.Key{twice[n]})
			}
			refused(x, keys...)
		}
	}
	usersAre(t, empty)
	usersAre(t, one, 1)
	if got := len(all.Users()); got != mostUsers {
		t.Fatal(got)
	}
	for _, k := range []string{"a", "b", "c", "d", "z"} {
		must(t, "Restore of what was refused", empty.Restore(aged(uint32(k[0])).Tx, key(k)), api.OK)
	}
}

// That it is a user is told ahead of whose the keys are, that ahead of how many users there are.
func TestRestoreIsRefused(t *testing.T) {
	l := full(t)
	has(t, l, 5, "a", toRead)
	has(t, l, 6, "b", toWrite)
	waits(t, l, 7, "b", toRead)
	prepared(t, l, 8, lock.Out{})
	for range 2 {
		for _, num := range []uint32{5, 6, 7, 8} {
			for _, k := range []string{"a", "b", "c"} {
				must(t, "Restore of a user", l.Restore(aged(num).Tx, key(k)), api.ErrThere)
			}
		}
		for _, x := range []api.Tx{aged(99).Tx, tx(0, 1, 1), tx(7, most, most)} {
			must(t, "Restore of a key that is read", l.Restore(x, key("a")), api.ErrState)
			must(t, "Restore of a key that is written", l.Restore(x, key("b")), api.ErrState)
			must(t, "Restore of one that is held, ahead", l.Restore(x, key("a"), key("c"), key("d")), api.ErrState)
			must(t, "Restore of one that is held, between", l.Restore(x, key("c"), key("b"), key("d")), api.ErrState)
			must(t, "Restore of one that is held, behind", l.Restore(x, key("c"), key("d"), key("b")), api.ErrState)
			must(t, "Restore of one more", l.Restore(x, key("c")), api.ErrMany)
			must(t, "Restore of one more", l.Restore(x, key("d"), key("c")), api.ErrMany)
			isNone(t, l, x)
		}
	}
	released(t, l, 64, lock.Out{})
	must(t, "Restore of a key that is read", l.Restore(aged(99).Tx, key("a")), api.ErrState)
	must(t, "Restore where there is room", l.Restore(aged(99).Tx, key("d"), key("c")), api.OK)
	must(t, "Restore of one more", l.Restore(aged(64).Tx, key("e")), api.ErrMany)
	holds(t, l, 99, "", "cd")
}

// Those that were restored have their keys, and the others go on with theirs.
func TestRestoreBesideOthers(t *testing.T) {
	l := lock.New()
	has(t, l, 4, "a", toWrite)
	waits(t, l, 6, "a", toRead)
	must(t, "Restore", l.Restore(aged(9).Tx, key("c"), key("b")), api.OK)
	must(t, "Restore", l.Restore(aged(2).Tx, key("d")), api.OK)
	must(t, "Restore of another one's key", l.Restore(aged(3).Tx, key("d")), api.ErrState)
	usersAre(t, l, 2, 4, 6, 9)
	waits(t, l, 4, "b", toRead)
	waits(t, l, 6, "c", toWrite)
	waits(t, l, 4, "c", toRead)
	released(t, l, 9, grants(got(4, "b", toRead), got(4, "c", toRead)))
	queueIs(t, l, "c", 6)
	released(t, l, 4, grants(got(6, "a", toRead), got(6, "c", toWrite)))
}

// P15.3

func TestTellingOfNone(t *testing.T) {
	l := lock.New()
	has(t, l, 3, "a", toRead)
	has(t, l, 1, "b", toWrite)
	waits(t, l, 3, "b", toWrite)
	for _, x := range append(append(goodTxs(), badTxs()...), tx(0, 1, 3), tx(1, 2, 3), tx(1, 1, 2)) {
		if x != aged(1).Tx && x != aged(3).Tx {
			isNone(t, l, x)
		}
		isNone(t, lock.New(), x)
	}
	for _, k := range append(goodKeys(), badKeys()...) {
		if k != key("a") && l.Mode(aged(3).Tx, k) != 0 {
			t.Fatal(k, l.Mode(aged(3).Tx, k))
		}
		if k != key("b") && len(l.Queue(k)) != 0 {
			t.Fatal(k, l.Queue(k))
		}
	}
}

// A wait is no lock, and who has a lock does not wait.
func TestTellingOfAWait(t *testing.T) {
	l := lock.New()
	has(t, l, 1, "a", toWrite)
	waits(t, l, 3, "a", toRead)
	holds(t, l, 1, "", "a")
	holds(t, l, 3, "", "")
	if l.Waits(aged(1).Tx) || !l.Waits(aged(3).Tx) || l.Prepared(aged(1).Tx) || l.Prepared(aged(3).Tx) {
		t.Fatal(l.Waits(aged(1).Tx), l.Waits(aged(3).Tx), l.Prepared(aged(1).Tx), l.Prepared(aged(3).Tx))
	}
}

// However they came, users are told by their names, and those who wait by their ages.
func TestOrders(t *testing.T) {
	list := goodTxs()
	row := chance(7)
	for range 100 {
		l := lock.New()
		asked(t, l, at(0, 1), "a", toWrite, grants(got(1, "a", toWrite)))
		var stamps []api.Stamp
		for _, x := range list {
			if x != aged(1).Tx {
				stamps = append(stamps, api.Stamp{Time: uint32(1 + row.below(4)), Tx: x})
			}
		}
		for _, s := range shuffled(&row, stamps) {
			out, why := l.Ask(s, key("a"), uint8(1+row.below(2)))
			answered(t, "Ask", out, why, lock.Out{}, api.OK)
		}
		if got := l.Users(); !slices.Equal(got, list) {
			t.Fatalf("Users: %v; want %v", got, list)
		}
		slices.SortFunc(stamps, byAge)
		var want []api.Tx
		for _, s := range stamps {
			want = append(want, s.Tx)
		}
		if got := l.Queue(key("a")); !slices.Equal(got, want) {
			t.Fatalf("Queue: %v; want %v", got, want)
		}
	}
}

func TestTablesThatNobodyGave(t *testing.T) {
	for _, l := range []*lock.Table{nil, {}, new(lock.Table)} {
		for range 2 {
			for _, x := range append(goodTxs(), badTxs()...) {
				for _, k := range append(goodKeys(), badKeys()...) {
					for mode := range uint8(4) {
						out, why := l.Ask(api.Stamp{Time: 1, Tx: x}, k, mode)
						answered(t, "Ask", out, why, lock.Out{}, api.ErrNil)
					}
					must(t, "Restore", l.Restore(x, k), api.ErrNil)
				}
				must(t, "Restore", l.Restore(x), api.ErrNil)
				out, why := l.Prepare(x)
				answered(t, "Prepare", out, why, lock.Out{}, api.ErrNil)
				out, why = l.Release(x)
				answered(t, "Release", out, why, lock.Out{}, api.ErrNil)
				isNone(t, l, x)
			}
			usersAre(t, l)
			queueIs(t, l, "a")
		}
	}
}

// R4

// Keys that are handed in are neither written into nor kept.
func TestKeysThatAreHandedIn(t *testing.T) {
	l := lock.New()
	keys := []api.Key{key("c"), key("a"), key("b"), key("z")}
	must(t, "Restore", l.Restore(aged(1).Tx, keys[:3]...), api.OK)
	if want := []api.Key{key("c"), key("a"), key("b"), key("z")}; !slices.Equal(keys, want) {
		t.Fatal(keys)
	}
	clear(keys)
	holds(t, l, 1, "", "abc")
	waits(t, l, 3, "a", toRead)
	released(t, l, 1, grants(got(3, "a", toRead)))
	if slices.ContainsFunc(keys, func(k api.Key) bool { return k != api.Key{} }) {
		t.Fatal(keys)
	}
	for _, keys := range [][]api.Key{{key("b"), key("a"), key("b")}, {key("b"), key("a")}, {key("b"), {}}} {
		was := slices.Clone(keys)
		l.Restore(aged(2).Tx, keys...)
		l.Restore(aged(2).Tx, keys...)
		if !slices.Equal(keys, was) {
			t.Fatal(keys, was)
		}
	}
}

func TestListsAreTheCallers(t *testing.T) {
	l := lock.New()
	has(t, l, 1, "a", toRead)
	has(t, l, 7, "a", toRead)
	has(t, l, 8, "a", toRead)
	waits(t, l, 9, "a", toWrite)
	out, why := l.Ask(aged(6), key("a"), toWrite)
	answered(t, "Ask", out, why, wounds(aged(7).Tx, aged(8).Tx), api.OK)
	clear(out.Wounded)
	_ = append(out.Wounded[:0], aged(1).Tx, aged(1).Tx, aged(1).Tx)
	for _, list := range [][]api.Tx{l.Users(), l.Queue(key("a"))} {
		clear(list)
		_ = append(list[:0], aged(5).Tx, aged(5).Tx)
	}
	usersAre(t, l, 1, 6, 9)
	queueIs(t, l, "a", 6, 9)
	users, queue := l.Users(), l.Queue(key("a"))
	out, why = l.Release(aged(1).Tx)
	answered(t, "Release", out, why, grants(got(6, "a", toWrite)), api.OK)
	clear(out.Granted)
	holds(t, l, 6, "", "a")
	usersAre(t, l, 6, 9)
	queueIs(t, l, "a", 9)
	listed(t, "Users, as they were", users, 1, 6, 9)
	listed(t, "Queue, as it was", queue, 6, 9)
}
