package part

import (
	"testing"

	"parrel/api"
	"parrel/disk"
	"parrel/msg"
	"parrel/store"
)

// greatest is the last number of a reg, as the document tells it. So many asks would take too long: the count is set near its end.
const greatest = 1<<31 - 1

func near(t *testing.T, left uint32) *Part {
	t.Helper()
	c := api.Config{Epoch: 1, R: 1, W: 1, Votes: [api.MaxNodes]uint8{1}}
	d, why := disk.New(5000)
	if why != api.OK {
		t.Fatal(why)
	}
	s, why := store.Open(d, []api.Write{{Key: api.Key{'a'}, Item: api.Item{Conf: c}}})
	if why != api.OK {
		t.Fatal(why)
	}
	p := New(s)
	p.count = greatest - left
	return p
}

// asked is what an ask of a transaction, for a key of a letter, is answered: a message's kind, and the number of its reg, or why it is refused.
func asked(t *testing.T, p *Part, num uint32, g api.Reg, k byte, mode uint8) (uint8, uint32) {
	t.Helper()
	l := p.Ask(msg.Msg{Kind: msg.Ask, Tx: api.Tx{Node: 1, Boot: 1, Num: num}, Time: num, Reg: g, Key: api.Key{k}, Mode: mode})
	if len(l) != 1 {
		t.Fatal(l)
	}
	return l[0].Msg.Kind, l[0].Msg.Reg.N + uint32(l[0].Msg.Why)
}

func answers(t *testing.T, p *Part, num uint32, g api.Reg, k byte, mode, kind uint8, number uint32) {
	t.Helper()
	if got, n := asked(t, p, num, g, k, mode); got != kind || n != number {
		t.Fatalf("%d is answered a message of the kind %d, %d; want %d, %d", num, got, n, kind, number)
	}
}

// P17.2: behind the last reg none is begun anew; nothing is turned by asking for one.
func TestRegsAtTheEnd(t *testing.T) {
	p := near(t, 2)
	answers(t, p, 1, api.Reg{}, 'a', 1, msg.Grant, greatest-1)
	answers(t, p, 2, api.Reg{}, 'a', 1, msg.Grant, greatest)
	for range 3 {
		answers(t, p, 3, api.Reg{}, 'a', 1, msg.Refuse, uint32(api.ErrMax))
		answers(t, p, 3, api.Reg{}, 'b', 1, msg.Refuse, uint32(api.ErrNone))
		answers(t, p, 3, api.Reg{Boot: 1, N: 1}, 'a', 1, msg.Refuse, uint32(api.ErrGone))
		// An older one wounds neither of both.
		l := p.Ask(msg.Msg{Kind: msg.Ask, Tx: api.Tx{Boot: 1, Num: 1}, Key: api.Key{'a'}, Mode: 2})
		if len(l) != 1 || l[0].Msg.Why != uint8(api.ErrMax) {
			t.Fatal(l)
		}
		if len(p.Known()) != 2 || len(p.Users()) != 2 {
			t.Fatal(p.Known(), p.Users())
		}
		// Known ones need no other reg.
		answers(t, p, 1, api.Reg{}, 'a', 1, msg.Grant, greatest-1)
	}
	if l := p.Late(api.Tx{Node: 1, Boot: 1, Num: 2}); len(l) != 1 {
		t.Fatal(l)
	}
	answers(t, p, 2, api.Reg{}, 'a', 1, msg.Refuse, uint32(api.ErrMax))
}

// P17.2: that the locks have too many users is told ahead of it.
func TestRegsAtTheEndOfTooMany(t *testing.T) {
	p := near(t, mostUsers)
	for num := range uint32(mostUsers) {
		answers(t, p, num+1, api.Reg{}, 'a', 1, msg.Grant, greatest-mostUsers+num+1)
	}
	answers(t, p, 99, api.Reg{}, 'a', 1, msg.Refuse, uint32(api.ErrMany))
	p.Late(api.Tx{Node: 1, Boot: 1, Num: 5})
	answers(t, p, 99, api.Reg{}, 'a', 1, msg.Refuse, uint32(api.ErrMax))
}
