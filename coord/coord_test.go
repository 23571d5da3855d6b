package coord_test

import (
	"slices"
	"testing"

	"parrel/api"
	"parrel/coord"
	"parrel/disk"
	"parrel/msg"
	"parrel/part"
	"parrel/store"
)

// Example 1 of the chapter.
func TestExample(t *testing.T) {
	x := placeOf(t)
	list, done, why := x.c.Start(tx(1), members("3:a"), writes("a"), []uint64{0})
	must(t, "Start", why, api.OK)
	became(t, "Start", done, nil)
	sent(t, "Start", list, prepare(1, 3, "a"))
	x.has(t, []uint32{1}, nil)
	list, done = x.c.Vote(3, vote(1, 3, voteYes))
	sent(t, "Vote", list, decide(1, 3, toCommit))
	became(t, "Vote", done, committed(1))
	x.has(t, nil, []uint32{1})
	sent(t, "Ack", x.c.Ack(3, ack(1)))
	x.has(t, nil, nil)
}

// P18.1

func TestNewOfNoDecisions(t *testing.T) {
	x := placeOf(t)
	x.has(t, nil, nil)
	sent(t, "Inquire", x.c.Inquire(2, inquire(1)), decide(1, 2, toAbort))
}

func TestNewOfDecisions(t *testing.T) {
	x := placeOf(t)
	for _, y := range []store.Decision{
		{Tx: tx(7), Members: 0b10000001, Writes: writes("ab"), Missing: []uint64{0b1100, 0b10}},
		{Tx: tx(2), Members: 0b100, Writes: writes("c"), Missing: []uint64{0}},
		{Tx: tx(5), Members: 0, Writes: writes("d"), Missing: []uint64{0b1000}},
	} {
		must(t, "Decide", x.s.Decide(y), api.OK)
	}
	for range 3 {
		x.c = coord.New(self, x.s)
		x.has(t, nil, []uint32{2, 5, 7})
		x.tells(t, 7, decide(7, 0, toCommit), decide(7, 7, toCommit), fresh(7, 2, "a"), fresh(7, 3, "a"), fresh(7, 1, "b"))
		x.tells(t, 2, decide(2, 2, toCommit))
		x.tells(t, 5, fresh(5, 3, "d"))
		// What was told is forgotten with the power, but the decisions stay.
		x.acks(t, 7, 0, 7)
		x.keeps(t, 7, "a", 3)
		x.keeps(t, 7, "b", 1)
		x.tells(t, 7, fresh(7, 2, "a"))
		x.again(t, 0)
	}
	x.acks(t, 2, 2)
	x.has(t, nil, []uint32{5, 7})
	x.keeps(t, 5, "d", 3)
	x.has(t, nil, []uint32{7})
}

// A decision of which nobody has to be told is one until it is looked at.
func TestNewOfADecisionThatAllKnow(t *testing.T) {
	for _, call := range []func(x *place){
		func(x *place) { x.acks(t, 1, 5) },
		func(x *place) { x.keeps(t, 1, "a", 5) },
		func(x *place) { x.keeps(t, 1, "z", 5) },
	} {
		x := placeOf(t)
		must(t, "Decide", x.s.Decide(store.Decision{Tx: tx(1), Writes: writes("a"), Missing: sets("a")}), api.OK)
		x.open(t)
		x.c = coord.New(self, x.s)
		x.has(t, nil, []uint32{1})
		x.tells(t, 1)
		x.has(t, nil, []uint32{1})
		call(x)
		x.has(t, nil, nil)
	}
}

// One of another node's transaction is decided, too; no message of it is taken.
func TestNewOfAnotherNodesDecision(t *testing.T) {
	x := placeOf(t)
	other := api.Tx{Node: self + 1, Boot: 1, Num: 1}
	must(t, "Decide", x.s.Decide(store.Decision{Tx: other, Members: 1, Writes: writes("a"), Missing: sets("a")}), api.OK)
	x.c = coord.New(self, x.s)
	was := x.seen()
	for _, m := range []msg.Msg{
		{Kind: msg.Vote, Tx: other, Reg: reg(0), Yes: voteYes}, {Kind: msg.Ack, Tx: other}, {Kind: msg.Kept, Tx: other, Key: key("a")}, {Kind: msg.Inquire, Tx: other},
	} {
		list, done := calls(x.c)[m.Kind](0, m)
		sent(t, "a message", list)
		became(t, "a message", done, nil)
		x.stays(t, "a message", was)
	}
	if !slices.Equal(x.c.Decided(), []api.Tx{other}) {
		t.Fatal(x.c.Decided())
	}
	list, done := x.c.Late(other)
	sent(t, "Late", list, part.Send{Msg: msg.Msg{Kind: msg.Decide, Tx: other, Yes: toCommit}})
	became(t, "Late", done, nil)
}

func TestStartAsks(t *testing.T) {
	x := placeOf(t)
	x.starts(t, 4, "0:a 1:ab 2: 3:b 4: 5:ab 6: 7:b", "ab", mostSet, 0)
	x.starts(t, 2, "7:c", "c")
	x.starts(t, 3, "0: 5:", "")
	x.has(t, []uint32{2, 3, 4}, nil)
}

func TestStartOfTheGreatest(t *testing.T) {
	x := placeOf(t)
	last := api.Tx{Node: self, Boot: most, Num: most}
	g := api.Reg{Boot: most, N: most}
	var list []coord.Member
	var want []part.Send
	for n := range uint8(mostNodes) {
		list = append(list, coord.Member{Node: n, Reg: g, Writes: many(16)})
		want = append(want, part.Send{To: n, Msg: msg.Msg{Kind: msg.Prepare, Tx: last, Reg: g, Writes: many(16)}})
	}
	missing := slices.Repeat([]uint64{mostSet}, 16)
	got, done, why := x.c.Start(last, list, many(16), missing)
	must(t, "Start", why, api.OK)
	became(t, "Start", done, nil)
	sent(t, "Start", got, want...)
	for n := range uint8(mostNodes) {
		got, done = x.c.Vote(n, msg.Msg{Kind: msg.Vote, Tx: last, Reg: g, Yes: voteYes})
	}
	became(t, "the last Vote", done, []coord.Done{{Tx: last, Committed: true}})
	if len(got) != mostNodes+16*mostNodes {
		t.Fatal(len(got))
	}
}

// Without members there is nothing to ask, nor to tell.
func TestStartOfNoMembers(t *testing.T) {
	x := placeOf(t)
	was := x.seen()
	for range 2 {
		for _, list := range [][]coord.Member{nil, {}} {
			got, done, why := x.c.Start(tx(1), list, nil, nil)
			must(t, "Start", why, api.OK)
			sent(t, "Start", got)
			became(t, "Start", done, committed(1))
			x.stays(t, "Start", was)
		}
	}
	// Nor is the power asked for.
	must(t, "Fail", x.d.Fail(), api.OK)
	_, done, why := x.c.Start(tx(1), nil, []api.Write{}, []uint64{})
	must(t, "Start", why, api.OK)
	became(t, "Start", done, committed(1))
}

func TestStartOfWhatMayNotBe(t *testing.T) {
	x := placeOf(t)
	x.starts(t, 8, "0:a", "a")
	x.decides(t, 9, "0:a", "a")
	was := x.seen()
	bad := func(turn func(l []coord.Member)) []coord.Member {
		l := members("2:a 5:ab")
		turn(l)
		return l
	}
	for _, c := range []struct {
		what    string
		t       api.Tx
		members []coord.Member
		writes  []api.Write
		missing []uint64
	}{
		{"no name", api.Tx{}, members("0:a"), writes("a"), sets("a")},
		{"no boot", api.Tx{Node: self, Num: 1}, members("0:a"), writes("a"), sets("a")},
		{"no number", api.Tx{Node: self, Boot: 1}, members("0:a"), writes("a"), sets("a")},
		{"a number too great", api.Tx{Node: self, Boot: 1, Num: most + 1}, members("0:a"), writes("a"), sets("a")},
		{"another node", api.Tx{Node: self - 1, Boot: 1, Num: 1}, members("0:a"), writes("a"), sets("a")},
		{"a node that is none", api.Tx{Node: mostNodes, Boot: 1, Num: 1}, members("0:a"), writes("a"), sets("a")},
		{"another node, without members", api.Tx{Node: self + 1, Boot: 1, Num: 1}, nil, nil, nil},
		{"a member that is no node", tx(1), bad(func(l []coord.Member) { l[1].Node = mostNodes }), writes("ab"), sets("ab")},
		{"a member far behind", tx(1), bad(func(l []coord.Member) { l[1].Node = 255 }), writes("ab"), sets("ab")},
		{"a member twice", tx(1), bad(func(l []coord.Member) { l[1].Node = 2 }), writes("ab"), sets("ab")},
		{"members that fall", tx(1), bad(func(l []coord.Member) { l[1].Node = 1 }), writes("ab"), sets("ab")},
		{"no reg", tx(1), bad(func(l []coord.Member) { l[0].Reg = api.Reg{} }), writes("ab"), sets("ab")},
		{"a reg without a boot", tx(1), bad(func(l []coord.Member) { l[1].Reg.Boot = 0 }), writes("ab"), sets("ab")},
		{"a reg without a number", tx(1), bad(func(l []coord.Member) { l[1].Reg.N = 0 }), writes("ab"), sets("ab")},
		{"a reg too great", tx(1), bad(func(l []coord.Member) { l[1].Reg.N = most + 1 }), writes("ab"), sets("ab")},
		{"a member's writes that fall", tx(1), bad(func(l []coord.Member) { slices.Reverse(l[1].Writes) }), writes("ab"), sets("ab")},
		{"a member's version too great", tx(1), bad(func(l []coord.Member) { l[0].Writes[0].Item.Version = most + 1 }), writes("ab"), sets("ab")},
		{"a member's writes too many", tx(1), bad(func(l []coord.Member) { l[0].Writes = many(17) }), writes("ab"), sets("ab")},
		{"writes that fall", tx(1), members("2:a 5:ab"), append(writes("b"), writes("a")...), sets("ab")},
		{"writes of no key", tx(1), members("2:a 5:ab"), append(make([]api.Write, 1), writes("b")...), sets("ab")},
		{"writes of no configuration", tx(1), members("2:a 5:ab"), []api.Write{{Key: key("a")}}, sets("a")},
		{"too many writes", tx(1), members("2:a"), many(17), make([]uint64, 17)},
		{"no sets", tx(1), members("2:a"), writes("a"), nil},
		{"a set too few", tx(1), members("2:a"), writes("ab"), sets("a")},
		{"a set too many", tx(1), members("2:a"), writes("a"), sets("ab")},
		{"a set too many, of no writes", tx(1), members("2:"), nil, sets("a")},
		{"a set too great", tx(1), members("2:a"), writes("ab"), []uint64{0, mostSet + 1}},
		{"a set far too great", tx(1), members("2:a"), writes("ab"), []uint64{1 << 63, 0}},
		{"a member has writes, and there are none", tx(1), members("2: 3:a"), nil, nil},
		{"writes that no member has", tx(1), members("2: 3:"), writes("a"), sets("a")},
		{"writes of no members", tx(1), nil, writes("a"), sets("a")},
		{"asked, and no set", tx(8), members("2:a"), writes("a"), nil},
		{"decided, and writes of no members", tx(9), nil, writes("a"), sets("a")},
	} {
		list, done, why := x.c.Start(c.t, c.members, c.writes, c.missing)
		must(t, c.what, why, api.ErrArg)
		sent(t, c.what, list)
		became(t, c.what, done, nil)
		x.stays(t, c.what, was)
	}
}

func TestStartOfOneThatIsThere(t *testing.T) {
	x := placeOf(t)
	x.starts(t, 1, "0:a 2:a", "a")
	x.decides(t, 2, "0:a", "a")
	was := x.seen()
	for range 2 {
		for _, who := range []string{"0:a 2:a", "3:a"} {
			for num := range uint32(2) {
				list, done, why := x.c.Start(tx(num+1), members(who), writes("a"), sets("a"))
				must(t, "Start", why, api.ErrThere)
				sent(t, "Start", list)
				became(t, "Start", done, nil)
			}
		}
		_, done, why := x.c.Start(tx(1), nil, nil, nil)
		must(t, "Start of no members", why, api.ErrThere)
		became(t, "Start of no members", done, nil)
		x.stays(t, "Start", was)
	}
	// The one that was started goes on as it was.
	x.votes(t, 1, voteYes, 2)
	x.ends(t, 1, 0, voteYes, committed(1), to(1, toCommit, 0, 2)...)
}

// What is over may be started anew: nobody remembers it.
func TestStartOfOneThatIsOver(t *testing.T) {
	x := placeOf(t)
	for range 3 {
		x.decides(t, 1, "0:a", "a")
		x.acks(t, 1, 0)
		x.starts(t, 1, "0:a 2:a", "a")
		x.ends(t, 1, 2, voteNo, aborted(1), decide(1, 0, toAbort))
		x.starts(t, 1, "4:", "")
		x.ends(t, 1, 4, voteRead, committed(1))
		x.has(t, nil, nil)
	}
}

// A member's writes need not be those that are missed.
func TestStartOfOtherWrites(t *testing.T) {
	x := placeOf(t)
	x.starts(t, 1, "0:a", "b", 4)
	x.ends(t, 1, 0, voteYes, committed(1), decide(1, 0, toCommit), fresh(1, 2, "b"))
}

// R4

func TestListsAreNobodysElse(t *testing.T) {
	x := placeOf(t)
	who, what, missing := members("0:ab 2:b"), writes("ab"), []uint64{8, 16}
	list, _, _ := x.c.Start(tx(1), who, what, missing)
	for _, l := range [][]api.Write{who[0].Writes, who[1].Writes, what, list[0].Msg.Writes, list[1].Msg.Writes} {
		l[0] = api.Write{}
	}
	who[0], missing[0], list[0] = coord.Member{}, 1, part.Send{}
	for range 2 {
		list, _ = x.c.Late(tx(1))
		sent(t, "Late", list, prepare(1, 0, "ab"), prepare(1, 2, "b"))
		list[0].Msg.Writes[1], list[1].Msg.Writes[0] = api.Write{}, api.Write{}
		list[1] = part.Send{}
	}
	if l := x.c.Asked(); l[0] == tx(1) {
		l[0] = api.Tx{}
	}
	x.has(t, []uint32{1}, nil)
	x.votes(t, 1, voteYes, 0)
	list, done := x.c.Vote(2, vote(1, 2, voteYes))
	told := []part.Send{decide(1, 0, toCommit), decide(1, 2, toCommit), fresh(1, 3, "a"), fresh(1, 4, "b")}
	sent(t, "Vote", list, told...)
	list[0], done[0] = part.Send{}, coord.Done{}
	for _, y := range x.s.Decisions() {
		y.Writes[0], y.Missing[0] = api.Write{}, 0
	}
	x.tells(t, 1, told...)
	list, _ = x.c.Late(tx(1))
	list[0] = part.Send{}
	if l := x.c.Decided(); l[0] == tx(1) {
		l[0] = api.Tx{}
	}
	x.tells(t, 1, told...)
	x.has(t, nil, []uint32{1})
	// What was told here is nothing that the store has: it tells all of it behind a loss of power.
	x.keeps(t, 1, "a", 3)
	if y := x.s.Decisions()[0]; y.Members != 5 || !slices.Equal(y.Missing, []uint64{8, 16}) || !slices.Equal(y.Writes, writes("ab")) {
		t.Fatal(y)
	}
}

func TestArgumentsStay(t *testing.T) {
	x := placeOf(t)
	who, what, missing := members("0:ab 2:b"), writes("ab"), []uint64{8, 16}
	x.c.Start(tx(1), who, what, missing)
	x.c.Vote(0, vote(1, 0, voteYes))
	x.c.Vote(2, vote(1, 2, voteYes))
	x.keeps(t, 1, "a", 3)
	x.keeps(t, 1, "b", 4)
	x.acks(t, 1, 0, 2)
	x.has(t, nil, nil)
	if !slices.Equal(missing, []uint64{8, 16}) || !slices.Equal(what, writes("ab")) || len(who) != 2 ||
		!slices.Equal(who[0].Writes, writes("ab")) || !slices.Equal(who[1].Writes, writes("b")) || who[1].Node != 2 {
		t.Fatal(who, what, missing)
	}
}

// P18.2

func TestVotesThatDoNotCount(t *testing.T) {
	x := placeOf(t)
	x.starts(t, 1, "0:a 2:a 4:", "a")
	x.votes(t, 1, voteYes, 2)
	none := func(what string, from uint8, m msg.Msg) {
		t.Helper()
		list, done := x.c.Vote(from, m)
		sent(t, what, list)
		became(t, what, done, nil)
	}
	for yes := uint8(voteYes); yes <= voteNo; yes++ {
		for _, from := range []uint8{1, 3, 5, 7, 8, 9, 63, 64, 255} {
			none("a Vote of no member", from, vote(1, from, yes))
			none("a Vote by a member's reg", from, vote(1, 0, yes))
		}
		none("a Vote by another one's reg", 0, vote(1, 2, yes))
		m := vote(1, 0, yes)
		m.Reg.Boot++
		none("a Vote of another boot", 0, m)
		m = vote(1, 0, yes)
		m.Reg.N += mostNodes
		none("a Vote by another reg", 0, m)
		none("a second Vote", 2, vote(1, 2, yes))
	}
	x.has(t, []uint32{1}, nil)
	x.votes(t, 1, voteRead, 4)
	x.ends(t, 1, 0, voteYes, committed(1), to(1, toCommit, 0, 2)...)
}

func TestAllVote(t *testing.T) {
	for _, c := range []struct {
		who, keys string
		missing   []uint64
		votes     [][2]uint8 // who votes what, in order
		done      []coord.Done
		want      []part.Send
	}{
		{"3:a", "a", []uint64{0}, [][2]uint8{{3, voteYes}}, committed(1), to(1, toCommit, 3)},
		{"1:a", "a", []uint64{0}, [][2]uint8{{1, voteYes}}, committed(1), to(1, toCommit, 1)},
		{"3:", "", nil, [][2]uint8{{3, voteRead}}, committed(1), nil},
		{"3:a", "a", []uint64{0}, [][2]uint8{{3, voteNo}}, aborted(1), nil},
		{"0:a 3:a", "a", []uint64{0}, [][2]uint8{{3, voteYes}, {0, voteYes}}, committed(1), to(1, toCommit, 0, 3)},
		{"0:a 3:a 7:", "a", []uint64{0}, [][2]uint8{{7, voteRead}, {3, voteYes}, {0, voteYes}}, committed(1), to(1, toCommit, 0, 3)},
		{"0:a 3:a 7:", "a", []uint64{0}, [][2]uint8{{3, voteYes}, {0, voteYes}, {7, voteRead}}, committed(1), to(1, toCommit, 0, 3)},
		{"0: 3: 7:", "", nil, [][2]uint8{{3, voteRead}, {0, voteRead}, {7, voteRead}}, committed(1), nil},
		{"0: 3: 7:", "", nil, [][2]uint8{{3, voteRead}, {7, voteNo}}, aborted(1), to(1, toAbort, 0)},
		{"0:a 3:a 7:", "a", []uint64{0}, [][2]uint8{{0, voteNo}}, aborted(1), to(1, toAbort, 3, 7)},
		{"0:a 3:a 7:", "a", []uint64{0}, [][2]uint8{{0, voteYes}, {3, voteNo}}, aborted(1), to(1, toAbort, 0, 7)},
		{"0:a 3:a 7:", "a", []uint64{0}, [][2]uint8{{7, voteRead}, {0, voteYes}, {3, voteNo}}, aborted(1), to(1, toAbort, 0)},
		{"0:a 3:a 7:", "a", []uint64{0}, [][2]uint8{{7, voteRead}, {3, voteNo}}, aborted(1), to(1, toAbort, 0)},
		{"0:ab 3:a 7:b", "ab", []uint64{0b110, 0b1000}, [][2]uint8{{0, voteYes}, {3, voteYes}, {7, voteYes}}, committed(1),
			append(to(1, toCommit, 0, 3, 7), fresh(1, 1, "a"), fresh(1, 2, "a"), fresh(1, 3, "b"))},
		{"2:b", "ab", []uint64{0b10000001, 0}, [][2]uint8{{2, voteYes}}, committed(1), append(to(1, toCommit, 2), fresh(1, 0, "a"), fresh(1, 7, "a"))},
		// Who gets a write, and is said to miss it, is told both.
		{"2:a", "a", []uint64{0b110}, [][2]uint8{{2, voteYes}}, committed(1), append(to(1, toCommit, 2), fresh(1, 1, "a"), fresh(1, 2, "a"))},
		// If all have let go it is committed, and one that votes to read has no part in it, whatever they have to write.
		{"0:a 3:a", "a", []uint64{4}, [][2]uint8{{0, voteRead}, {3, voteRead}}, committed(1), nil},
		{"0:a 3:a", "a", []uint64{4}, [][2]uint8{{0, voteRead}, {3, voteYes}}, committed(1), append(to(1, toCommit, 3), fresh(1, 2, "a"))},
	} {
		x := placeOf(t)
		x.starts(t, 1, c.who, c.keys, c.missing...)
		last := c.votes[len(c.votes)-1]
		for _, v := range c.votes[:len(c.votes)-1] {
			x.votes(t, 1, v[1], v[0])
			x.has(t, []uint32{1}, nil)
		}
		x.ends(t, 1, last[0], last[1], c.done, c.want...)
		if len(c.want) > 0 && c.want[0].Msg.Yes == toCommit {
			x.has(t, nil, []uint32{1})
			x.again(t, 0)
			x.has(t, nil, []uint32{1})
			x.tells(t, 1, c.want...)
			continue
		}
		x.has(t, nil, nil)
		x.again(t, 0)
		x.has(t, nil, nil)
	}
}

func TestStoredDecision(t *testing.T) {
	x := placeOf(t)
	x.decides(t, 1, "0:a 2:ab 3: 7:b", "ab", 0b10, 0b110010)
	x.has(t, nil, []uint32{1})
	x.again(t, 0)
	x.starts(t, 2, "0:a 2:ab 3: 7:b", "ab", 0b10, 0b110010)
	x.votes(t, 2, voteYes, 7, 2)
	x.votes(t, 2, voteRead, 3)
	x.ends(t, 2, 0, voteYes, committed(2), append(to(2, toCommit, 0, 2, 7), fresh(2, 1, "a"), fresh(2, 1, "b"), fresh(2, 4, "b"), fresh(2, 5, "b"))...)
	for n, want := range []uint64{0b10001101, 0b10000101} {
		y := x.s.Decisions()[n]
		if y.Tx != tx(uint32(n+1)) || y.Members != want || !slices.Equal(y.Writes, writes("ab")) || !slices.Equal(y.Missing, []uint64{0b10, 0b110010}) {
			t.Fatal(y)
		}
	}
}

// While the power is off nothing more comes of a vote: it counts, and what it would have ended stays asked.
func TestVoteWithoutPower(t *testing.T) {
	for _, off := range []func(d *disk.Disk){
		func(d *disk.Disk) { d.Fail() },
		func(d *disk.Disk) { d.Arm(0) },
	} {
		x := placeOf(t)
		x.starts(t, 1, "0:a 2:a 4:", "a")
		x.votes(t, 1, voteYes, 0)
		x.votes(t, 1, voteRead, 4)
		off(x.d)
		x.votes(t, 1, voteYes, 2)
		x.has(t, []uint32{1}, nil)
		if x.d.On() {
			t.Fatal("the power is on")
		}
		// All have voted: none of them is asked anew, and none has to vote again.
		x.tells(t, 1)
		x.votes(t, 1, voteYes, 2, 0)
		x.votes(t, 1, voteNo, 2, 0, 4)
		sent(t, "Inquire", x.c.Inquire(0, inquire(1)))
		x.has(t, []uint32{1}, nil)
		list, done, why := x.c.Abort(tx(1))
		must(t, "Abort", why, api.OK)
		sent(t, "Abort", list, to(1, toAbort, 0, 2)...)
		became(t, "Abort", done, aborted(1))
		x.again(t, 0)
		x.has(t, nil, nil)
	}
}

// What needs no decision needs no power.
func TestVotesThatNeedNoPower(t *testing.T) {
	x := placeOf(t)
	x.starts(t, 1, "0: 2:", "")
	x.starts(t, 2, "0:a 2:a", "a")
	must(t, "Fail", x.d.Fail(), api.OK)
	x.starts(t, 3, "0:a", "a")
	x.votes(t, 1, voteRead, 2)
	x.ends(t, 1, 0, voteRead, committed(1))
	x.ends(t, 2, 0, voteNo, aborted(2), decide(2, 2, toAbort))
	x.has(t, []uint32{3}, nil)
}

// Of each other error it is aborted.
func TestVoteThatTheStoreRefuses(t *testing.T) {
	refused := func(what string, x *place) {
		t.Helper()
		x.votes(t, 1, voteYes, 3)
		x.votes(t, 1, voteRead, 5)
		x.ends(t, 1, 0, voteYes, aborted(1), to(1, toAbort, 0, 3)...)
		if len(x.c.Asked()) > 0 || len(x.c.Decided()) > 0 {
			t.Fatal(what, x.c.Asked(), x.c.Decided())
		}
		sent(t, what, x.c.Inquire(3, inquire(1)), decide(1, 3, toAbort))
	}
	// A vote to commit of who has nothing to write.
	x := placeOf(t)
	x.starts(t, 1, "0: 3: 5:", "")
	refused("nothing to write", x)
	x.has(t, nil, nil)
	// One that the store has already.
	x = placeOf(t)
	x.starts(t, 1, "0:a 3:a 5:a", "a")
	must(t, "Decide", x.s.Decide(store.Decision{Tx: tx(1), Members: 1, Writes: writes("b"), Missing: sets("b")}), api.OK)
	refused("decided", x)
	// A disk that is full.
	x = placeIn(t, 2500)
	x.starts(t, 1, "0:a 3:a 5:", "a")
	must(t, "Decide", x.s.Decide(store.Decision{Tx: tx(2), Members: 1, Writes: many(4), Missing: make([]uint64, 4)}), api.ErrFull)
	x.starts(t, 3, "0:", "")
	x.ends(t, 3, 0, voteRead, committed(3))
	must(t, "Decide", x.s.Decide(store.Decision{Tx: tx(2), Members: 1, Writes: writes("a"), Missing: sets("a")}), api.OK)
	x.c = coord.New(self, x.s)
	x.acks(t, 2, 0)
	x.has(t, nil, nil)
	list, _, why := x.c.Start(tx(1), []coord.Member{{Node: 0, Reg: reg(0), Writes: many(4)}, {Node: 3, Reg: reg(3)}, {Node: 5, Reg: reg(5)}}, many(4), make([]uint64, 4))
	must(t, "Start", why, api.OK)
	if len(list) != 3 {
		t.Fatal(list)
	}
	refused("full", x)
	x.has(t, nil, nil)
	// No store at all.
	for _, s := range []*store.Store{nil, {}} {
		x = &place{c: coord.New(self, s)}
		x.starts(t, 1, "0:a 3:a 5:", "a")
		refused("no store", x)
	}
}

// Who votes to commit waits to be told, if it is not asked any more.
func TestVotesOfOthers(t *testing.T) {
	x := placeOf(t)
	x.decides(t, 1, "0:a 2:a", "a", 16)
	x.acks(t, 1, 2)
	x.starts(t, 2, "0:a", "a")
	x.ends(t, 2, 0, voteNo, aborted(2))
	was := x.seen()
	for _, from := range []uint8{0, 1, 2, 7, 8, 64, 255} {
		for num, yes := range map[uint32]uint8{1: toCommit, 2: toAbort, 3: toAbort} {
			x.ends(t, num, from, voteYes, nil, decide(num, from, yes))
			x.votes(t, num, voteRead, from)
			x.votes(t, num, voteNo, from)
		}
		x.stays(t, "Vote", was)
	}
	x.again(t, 0)
	x.ends(t, 1, 2, voteYes, nil, decide(1, 2, toCommit))
	x.acks(t, 1, 0, 2)
	x.keeps(t, 1, "a", 4)
	x.ends(t, 1, 2, voteYes, nil, decide(1, 2, toAbort))
}

// P18.3

func TestAllTell(t *testing.T) {
	x := placeOf(t)
	x.decides(t, 1, "0:a 3:ab 7:b", "ab", 0b110, 0b10)
	told := []part.Send{decide(1, 0, toCommit), decide(1, 3, toCommit), decide(1, 7, toCommit), fresh(1, 1, "a"), fresh(1, 2, "a"), fresh(1, 1, "b")}
	for _, step := range []struct {
		node uint8
		key  string // of a Kept; an Ack has none
	}{{3, ""}, {1, "b"}, {2, "a"}, {7, ""}, {1, "a"}, {0, ""}} {
		x.tells(t, 1, told...)
		// Who has nothing to tell tells nothing, and who told it tells nothing new.
		for _, other := range []uint8{4, 5, 6, 8, 9, 63, 64, 255} {
			x.acks(t, 1, other)
			x.keeps(t, 1, "a", other)
			x.keeps(t, 1, "b", other)
			x.keeps(t, 1, "c", other)
		}
		x.keeps(t, 1, "b", 2)
		x.keeps(t, 1, "c", 1, 2)
		x.acks(t, 1, 1, 2)
		x.tells(t, 1, told...)
		x.has(t, nil, []uint32{1})
		for range 2 {
			if step.key == "" {
				x.acks(t, 1, step.node)
			} else {
				x.keeps(t, 1, step.key, step.node)
			}
		}
		told = slices.DeleteFunc(told, func(s part.Send) bool { return s.To == step.node && s.Msg.Key == key(step.key) })
	}
	x.tells(t, 1)
	x.has(t, nil, nil)
}

// What is told counts for its own transaction alone, and for none that is asked, or that nobody remembers.
func TestWhatIsToldOfOthers(t *testing.T) {
	x := placeOf(t)
	x.decides(t, 1, "0:a", "a", 4)
	x.decides(t, 2, "0:a", "a", 4)
	x.starts(t, 3, "0:a", "a", 4)
	was := x.seen()
	for _, num := range []uint32{3, 4} {
		x.acks(t, num, 0, 2)
		x.keeps(t, num, "a", 0, 2)
		x.stays(t, "Ack", was)
	}
	x.acks(t, 1, 0)
	x.keeps(t, 2, "a", 2)
	x.tells(t, 1, fresh(1, 2, "a"))
	x.tells(t, 2, decide(2, 0, toCommit))
	x.keeps(t, 1, "a", 2)
	x.has(t, []uint32{3}, []uint32{2})
	x.acks(t, 2, 0)
	x.has(t, []uint32{3}, nil)
	x.ends(t, 3, 0, voteYes, committed(3), decide(3, 0, toCommit), fresh(3, 2, "a"))
}

// Whatever the store says of its end, it is decided no more; behind a loss of power it is told once more.
func TestEndThatTheStoreRefuses(t *testing.T) {
	x := placeOf(t)
	x.decides(t, 1, "0:a", "a", 4)
	x.acks(t, 1, 0)
	must(t, "Fail", x.d.Fail(), api.OK)
	x.keeps(t, 1, "a", 2)
	if len(x.c.Decided()) > 0 || len(x.s.Decisions()) != 1 {
		t.Fatal(x.c.Decided(), x.s.Decisions())
	}
	sent(t, "Inquire", x.c.Inquire(0, inquire(1)), decide(1, 0, toAbort))
	x.again(t, 0)
	x.has(t, nil, []uint32{1})
	x.tells(t, 1, decide(1, 0, toCommit), fresh(1, 2, "a"))
	x.keeps(t, 1, "a", 2)
	x.acks(t, 1, 0)
	x.has(t, nil, nil)
	// That it ended is not forced: it comes again, if that is lost.
	x.again(t, 0)
	x.has(t, nil, []uint32{1})
	x.acks(t, 1, 0)
	x.keeps(t, 1, "a", 2)
	x.again(t, mostRoom)
	x.has(t, nil, nil)
}

func TestInquire(t *testing.T) {
	x := placeOf(t)
	x.starts(t, 1, "0:a 2:a", "a")
	x.decides(t, 2, "0:a 2:a", "a")
	was := x.seen()
	for _, from := range []uint8{0, 2, 3, 7, 8, 64, 255} {
		for range 2 {
			sent(t, "Inquire of one that is asked", x.c.Inquire(from, inquire(1)))
			sent(t, "Inquire of one that is decided", x.c.Inquire(from, inquire(2)), decide(2, from, toCommit))
			sent(t, "Inquire of one that nobody remembers", x.c.Inquire(from, inquire(3)), decide(3, from, toAbort))
		}
		x.stays(t, "Inquire", was)
	}
	x.votes(t, 1, voteYes, 0)
	sent(t, "Inquire", x.c.Inquire(0, inquire(1)))
	x.ends(t, 1, 2, voteYes, committed(1), to(1, toCommit, 0, 2)...)
	sent(t, "Inquire", x.c.Inquire(0, inquire(1)), decide(1, 0, toCommit))
	x.acks(t, 1, 0, 2)
	sent(t, "Inquire", x.c.Inquire(0, inquire(1)), decide(1, 0, toAbort))
}

// P18.4

func TestLateOfOneThatIsAsked(t *testing.T) {
	x := placeOf(t)
	x.starts(t, 1, "0:a 2:ab 3: 6:b", "ab")
	x.starts(t, 2, "0:a", "a")
	late := func(want ...part.Send) {
		t.Helper()
		list, done := x.c.Late(tx(1))
		sent(t, "Late", list, want...)
		became(t, "Late", done, nil)
	}
	late(prepare(1, 0, "a"), prepare(1, 2, "ab"), prepare(1, 3, ""), prepare(1, 6, "b"))
	x.votes(t, 1, voteYes, 2)
	late(prepare(1, 0, "a"), prepare(1, 3, ""), prepare(1, 6, "b"))
	x.votes(t, 1, voteRead, 3)
	for range lastLate - 3 {
		late(prepare(1, 0, "a"), prepare(1, 6, "b"))
	}
	x.has(t, []uint32{1, 2}, nil)
	list, done := x.c.Late(tx(1))
	sent(t, "the ninth Late", list, to(1, toAbort, 0, 2, 6)...)
	became(t, "the ninth Late", done, aborted(1))
	x.has(t, []uint32{2}, nil)
	late()
	// Each has its own count.
	for range lastLate - 1 {
		x.tells(t, 2, prepare(2, 0, "a"))
	}
	x.starts(t, 1, "0:a", "a")
	late(prepare(1, 0, "a"))
	list, done = x.c.Late(tx(2))
	sent(t, "the ninth Late", list, decide(2, 0, toAbort))
	became(t, "the ninth Late", done, aborted(2))
	late(prepare(1, 0, "a"))
	x.has(t, []uint32{1}, nil)
}

// All have voted, but the power was off: it is asked, of nobody, until the ninth Late.
func TestLateOfOneThatStayedAsked(t *testing.T) {
	x := placeOf(t)
	x.starts(t, 1, "0:a 2:", "a")
	x.votes(t, 1, voteRead, 2)
	x.d.Arm(0)
	x.votes(t, 1, voteYes, 0)
	for range lastLate - 1 {
		x.tells(t, 1)
		x.has(t, []uint32{1}, nil)
	}
	list, done := x.c.Late(tx(1))
	sent(t, "the ninth Late", list, decide(1, 0, toAbort))
	became(t, "the ninth Late", done, aborted(1))
	x.has(t, nil, nil)
}

func TestLateOfOneThatIsDecided(t *testing.T) {
	x := placeOf(t)
	x.decides(t, 1, "0:a 2:a", "a", 8)
	for range 3 * lastLate {
		x.tells(t, 1, decide(1, 0, toCommit), decide(1, 2, toCommit), fresh(1, 3, "a"))
	}
	x.acks(t, 1, 0)
	x.keeps(t, 1, "a", 3)
	x.tells(t, 1, decide(1, 2, toCommit))
	x.has(t, nil, []uint32{1})
}

func TestLateOfAnyOther(t *testing.T) {
	x := placeOf(t)
	x.starts(t, 1, "0:a", "a")
	x.decides(t, 2, "0:a", "a")
	was := x.seen()
	for _, y := range []api.Tx{tx(3), {}, {Node: self, Boot: 2, Num: 1}, {Node: 2, Boot: 1, Num: 1}, {Node: 255, Boot: most + 1, Num: most + 1}} {
		for range lastLate + 1 {
			list, done := x.c.Late(y)
			sent(t, "Late", list)
			became(t, "Late", done, nil)
		}
		x.stays(t, "Late", was)
	}
	x.tells(t, 1, prepare(1, 0, "a"))
}

func TestAbort(t *testing.T) {
	x := placeOf(t)
	x.starts(t, 1, "0:a 2:ab 3: 6:b", "ab")
	x.starts(t, 2, "0:a 2:ab 3: 6:b", "ab")
	x.decides(t, 3, "0:a", "a")
	x.votes(t, 1, voteYes, 2)
	x.votes(t, 1, voteRead, 3)
	for num, nodes := range map[uint32][]uint8{1: {0, 2, 6}, 2: {0, 2, 3, 6}} {
		list, done, why := x.c.Abort(tx(num))
		must(t, "Abort", why, api.OK)
		sent(t, "Abort", list, to(num, toAbort, nodes...)...)
		became(t, "Abort", done, aborted(num))
	}
	x.has(t, nil, []uint32{3})
	was := x.seen()
	for _, y := range []api.Tx{tx(1), tx(2), tx(3), tx(4), {}, {Node: 0, Boot: 1, Num: 1}} {
		list, done, why := x.c.Abort(y)
		must(t, "Abort", why, api.ErrNone)
		sent(t, "Abort", list)
		became(t, "Abort", done, nil)
		x.stays(t, "Abort", was)
	}
	// A vote that comes late is told of it.
	x.ends(t, 1, 6, voteYes, nil, decide(1, 6, toAbort))
}

// They rise by the boot, then by the number.
func TestListsRise(t *testing.T) {
	rising := []api.Tx{{Node: self, Boot: 1, Num: 2}, {Node: self, Boot: 1, Num: 300}, {Node: self, Boot: 2, Num: 1}, {Node: self, Boot: 256, Num: 1}, {Node: self, Boot: most, Num: most}}
	x := placeOf(t)
	for _, at := range []int{3, 0, 4, 2, 1} {
		_, _, why := x.c.Start(rising[at], members("0:a"), writes("a"), sets("a"))
		must(t, "Start", why, api.OK)
	}
	if !slices.Equal(x.c.Asked(), rising) || len(x.c.Decided()) > 0 {
		t.Fatal(x.c.Asked(), x.c.Decided())
	}
	for _, at := range []int{1, 4, 0, 3, 2} {
		x.c.Vote(0, msg.Msg{Kind: msg.Vote, Tx: rising[at], Reg: reg(0), Yes: voteYes})
	}
	if !slices.Equal(x.c.Decided(), rising) || len(x.c.Asked()) > 0 {
		t.Fatal(x.c.Asked(), x.c.Decided())
	}
}

func TestMessagesThatAreNotTaken(t *testing.T) {
	x := placeOf(t)
	x.starts(t, 1, "0:a", "a", 1)
	x.decides(t, 2, "0:a", "a", 1)
	was := x.seen()
	for num := range uint32(3) {
		for _, good := range []msg.Msg{vote(num+1, 0, voteYes), vote(num+1, 0, voteNo), ack(num + 1), kept(num+1, "a"), inquire(num + 1)} {
			for kind, call := range calls(x.c) {
				bad := badMessages(good)
				if kind != good.Kind {
					bad = append(bad, good)
				}
				for _, m := range bad {
					list, done := call(0, m)
					sent(t, "a message", list)
					became(t, "a message", done, nil)
					x.stays(t, "a message", was)
				}
			}
		}
	}
	// All other kinds are none of a coordinator's.
	for kind := range 256 {
		m := msg.Msg{Kind: uint8(kind), Tx: tx(1), Reg: reg(0), Yes: voteYes}
		for own, call := range calls(x.c) {
			if uint8(kind) == own {
				continue
			}
			list, done := call(0, m)
			sent(t, "a message", list)
			became(t, "a message", done, nil)
		}
	}
	x.stays(t, "other kinds", was)
}

// A node that is none begins no transactions.
func TestNewOfNoNode(t *testing.T) {
	x := placeOf(t)
	for _, node := range []uint8{mostNodes, 255} {
		c := coord.New(node, x.s)
		_, _, why := c.Start(api.Tx{Node: node, Boot: 1, Num: 1}, nil, nil, nil)
		must(t, "Start", why, api.ErrArg)
		_, _, why = c.Start(tx(1), nil, nil, nil)
		must(t, "Start", why, api.ErrArg)
		sent(t, "Inquire", c.Inquire(0, msg.Msg{Kind: msg.Inquire, Tx: api.Tx{Node: node, Boot: 1, Num: 1}}))
	}
}

func TestNobodysCoordinator(t *testing.T) {
	for _, c := range []*coord.Coord{nil, {}} {
		for range 2 {
			list, done, why := c.Start(tx(1), members("0:a"), writes("a"), sets("a"))
			must(t, "Start", why, api.ErrNil)
			sent(t, "Start", list)
			became(t, "Start", done, nil)
			_, done, why = c.Start(tx(1), nil, nil, nil)
			must(t, "Start", why, api.ErrNil)
			became(t, "Start", done, nil)
			_, _, why = c.Start(api.Tx{}, nil, nil, nil)
			must(t, "Start of what may not be", why, api.ErrNil)
			for _, m := range []msg.Msg{vote(1, 0, voteYes), ack(1), kept(1, "a"), inquire(1), {Kind: msg.Inquire, Tx: api.Tx{Node: 0, Boot: 1, Num: 1}}} {
				list, done = calls(c)[m.Kind](0, m)
				sent(t, "a message", list)
				became(t, "a message", done, nil)
			}
			list, done = c.Late(tx(1))
			sent(t, "Late", list)
			became(t, "Late", done, nil)
			list, done, why = c.Abort(tx(1))
			must(t, "Abort", why, api.ErrNil)
			sent(t, "Abort", list)
			became(t, "Abort", done, nil)
			if len(c.Asked()) > 0 || len(c.Decided()) > 0 {
				t.Fatal(c.Asked(), c.Decided())
			}
		}
	}
}
