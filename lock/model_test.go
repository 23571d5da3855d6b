package lock_test

import (
	"bytes"
	"cmp"
	"slices"
	"testing"

	"parrel/api"
	"parrel/lock"
)

// The limits and the modes, as the document tells them.
const (
	most      = 1<<31 - 1
	mostNodes = 8
	mostUsers = 64

	toRead  = 1
	toWrite = 2
)

func tx(node uint8, boot, num uint32) api.Tx { return api.Tx{Node: node, Boot: boot, Num: num} }

// at is a stamp of a time, whose transaction is the one of that number.
func at(time, num uint32) api.Stamp { return api.Stamp{Time: time, Tx: tx(1, 1, num)} }

// aged is a transaction that is as old as its number tells.
func aged(num uint32) api.Stamp { return at(num, num) }

func key(name string) api.Key {
	var k api.Key
	copy(k[:], name)
	return k
}

// goodTxs are ones that may be, rising.
func goodTxs() []api.Tx {
	return []api.Tx{
		tx(0, 1, 1), tx(0, 1, 2), tx(0, 1, 256), tx(0, 2, 1), tx(0, 255, 9), tx(0, 256, 1), tx(0, most, most),
		tx(1, 1, 1), tx(1, 1, most), tx(1, 2, 1), tx(6, most, 1), tx(mostNodes-1, 1, 1), tx(mostNodes-1, most, most-1), tx(mostNodes-1, most, most),
	}
}

// badTxs are ones that may not be.
func badTxs() []api.Tx {
	return []api.Tx{
		{}, tx(0, 0, 1), tx(0, 1, 0), tx(mostNodes, 1, 1), tx(255, 1, 1), tx(mostNodes-1, 0, 0),
		tx(1, most+1, 1), tx(1, 1, most+1), tx(1, 1<<32-1, 1), tx(1, 1, 1<<32-1),
	}
}

// goodKeys are ones that may be, rising.
func goodKeys() []api.Key {
	return []api.Key{
		{1}, {1, 1}, {'a'}, {'a', 'a'}, {'a', 'b'}, {'b'}, {'b', 1}, {128}, {255},
		{255, 255, 255, 255, 255, 255, 255, 254}, {255, 255, 255, 255, 255, 255, 255, 255},
	}
}

// badKeys are ones that may not be.
func badKeys() []api.Key {
	return []api.Key{{}, {0, 'a'}, {'a', 0, 'b'}, {0, 0, 0, 0, 0, 0, 0, 1}, {'a', 0, 0, 0, 0, 0, 0, 'a'}, {0, 255, 255, 255, 255, 255, 255, 255}}
}

// badStamps are ones that may not be: by their times, or by their names.
func badStamps() []api.Stamp {
	out := []api.Stamp{{Time: most + 1, Tx: tx(1, 1, 1)}, {Time: 1<<32 - 1, Tx: tx(1, 1, 1)}}
	for _, x := range badTxs() {
		out = append(out, api.Stamp{Time: 1, Tx: x})
	}
	return out
}

// wounds is what came of a call that wounded those, and granted nothing; grants one that granted those, and wounded none.
func wounds(list ...api.Tx) lock.Out { return lock.Out{Wounded: list} }

func grants(list ...lock.Got) lock.Out { return lock.Out{Granted: list} }

// got is a lock that is granted to the transaction of that number.
func got(num uint32, k string, mode uint8) lock.Got {
	return lock.Got{Tx: aged(num).Tx, Key: key(k), Mode: mode}
}

// asked is an ask that has to be taken, with just that coming of it.
func asked(t *testing.T, l *lock.Table, s api.Stamp, k string, mode uint8, want lock.Out) {
	t.Helper()
	out, why := l.Ask(s, key(k), mode)
	answered(t, "Ask", out, why, want, api.OK)
}

// has is an ask that has to be granted at once, and does nothing else.
func has(t *testing.T, l *lock.Table, num uint32, k string, mode uint8) {
	t.Helper()
	asked(t, l, aged(num), k, mode, grants(got(num, k, mode)))
}

// waits is an ask that has to wait, and does nothing else.
func waits(t *testing.T, l *lock.Table, num uint32, k string, mode uint8) {
	t.Helper()
	asked(t, l, aged(num), k, mode, lock.Out{})
	if !l.Waits(aged(num).Tx) || !slices.Contains(l.Queue(key(k)), aged(num).Tx) {
		t.Fatalf("%d does not wait for %s", num, k)
	}
}

func prepared(t *testing.T, l *lock.Table, num uint32, want lock.Out) {
	t.Helper()
	out, why := l.Prepare(aged(num).Tx)
	answered(t, "Prepare", out, why, want, api.OK)
	if !l.Prepared(aged(num).Tx) {
		t.Fatalf("%d is not prepared", num)
	}
}

func released(t *testing.T, l *lock.Table, num uint32, want lock.Out) {
	t.Helper()
	out, why := l.Release(aged(num).Tx)
	answered(t, "Release", out, why, want, api.OK)
	isNone(t, l, aged(num).Tx)
}

// answered asks for what a call answered.
func answered(t *testing.T, what string, out lock.Out, why api.Errno, want lock.Out, error api.Errno) {
	t.Helper()
	must(t, what, why, error)
	if !slices.Equal(out.Wounded, want.Wounded) || !slices.Equal(out.Granted, want.Granted) {
		t.Fatalf("%s: %v; want %v", what, out, want)
	}
}

// must is an error that has to be that one.
func must(t *testing.T, what string, got, want api.Errno) {
	t.Helper()
	if got != want {
		t.Fatalf("%s: %v; want %v", what, got, want)
	}
}

// holds asks for a user's locks, of the keys a to z: as a list of keys of a letter each, to read and to write.
func holds(t *testing.T, l *lock.Table, num uint32, reads, writes string) {
	t.Helper()
	for c := byte('a'); c <= 'z'; c++ {
		var want uint8
		if bytes.IndexByte([]byte(reads), c) >= 0 {
			want = toRead
		}
		if bytes.IndexByte([]byte(writes), c) >= 0 {
			want = toWrite
		}
		if is := l.Mode(aged(num).Tx, api.Key{c}); is != want {
			t.Fatalf("%d holds %c in the mode %d; want %d", num, c, is, want)
		}
	}
}

// isNone asks that a transaction is no user.
func isNone(t *testing.T, l *lock.Table, x api.Tx) {
	t.Helper()
	if slices.Contains(l.Users(), x) || l.Waits(x) || l.Prepared(x) {
		t.Fatalf("%v is a user: %v, %v, %v", x, l.Users(), l.Waits(x), l.Prepared(x))
	}
	for _, k := range append(goodKeys(), badKeys()...) {
		if l.Mode(x, k) != 0 || slices.Contains(l.Queue(k), x) {
			t.Fatalf("%v holds %v in the mode %d, and %v wait for it", x, k, l.Mode(x, k), l.Queue(k))
		}
	}
}

// usersAre asks for just those users, by the numbers of their transactions.
func usersAre(t *testing.T, l *lock.Table, nums ...uint32) {
	t.Helper()
	listed(t, "Users", l.Users(), nums...)
}

// queueIs asks for just those who wait for a key, the older ones first.
func queueIs(t *testing.T, l *lock.Table, k string, nums ...uint32) {
	t.Helper()
	listed(t, "Queue", l.Queue(key(k)), nums...)
}

func listed(t *testing.T, what string, list []api.Tx, nums ...uint32) {
	t.Helper()
	var want []api.Tx
	for _, num := range nums {
		want = append(want, aged(num).Tx)
	}
	if !slices.Equal(list, want) {
		t.Fatalf("%s: %v; want %v", what, list, want)
	}
}

// full is a table with as many users as it can have: of 1 to 64, each of which holds a key of its own to read.
func full(t *testing.T) *lock.Table {
	t.Helper()
	l := lock.New()
	for n := range uint32(mostUsers) {
		has(t, l, n+1, "k"+string([]byte{byte(n + 1)}), toRead)
	}
	return l
}

// claim is a lock, or a wait.
type claim struct {
	tx   api.Tx
	key  api.Key
	mode uint8
}

// model is a table as lists, told without package lock, word by word as the chapter does; all that it is handed may be.
type model struct {
	users    []api.Stamp
	prepared []api.Tx
	locks    []claim
	waits    []claim
}

func (m *model) stamp(x api.Tx) (api.Stamp, bool) {
	n := slices.IndexFunc(m.users, func(s api.Stamp) bool { return s.Tx == x })
	if n < 0 {
		return api.Stamp{}, false
	}
	return m.users[n], true
}

func (m *model) isPrepared(x api.Tx) bool { return slices.Contains(m.prepared, x) }

func (m *model) isWaiting(x api.Tx) bool {
	return slices.ContainsFunc(m.waits, func(c claim) bool { return c.tx == x })
}

func (m *model) ages(a, b api.Tx) int {
	x, _ := m.stamp(a)
	y, _ := m.stamp(b)
	return byAge(x, y)
}

func (m *model) ask(s api.Stamp, k api.Key, mode uint8) (lock.Out, api.Errno) {
	if m.isPrepared(s.Tx) {
		return lock.Out{}, api.ErrState
	}
	if _, is := m.stamp(s.Tx); !is {
		if len(m.users) == mostUsers {
			return lock.Out{}, api.ErrMany
		}
		m.users = append(m.users, s)
	}
	if modeOf(m.locks, s.Tx, k) >= mode {
		return lock.Out{}, api.OK
	}
	wait := claim{s.Tx, k, max(mode, modeOf(m.waits, s.Tx, k))}
	m.waits = append(without(m.waits, s.Tx, k), wait)
	var out lock.Out
	for _, c := range m.locks {
		if c.key == k && !together(c, wait) && !m.isPrepared(c.tx) && m.ages(s.Tx, c.tx) < 0 {
			out.Wounded = append(out.Wounded, c.tx)
		}
	}
	slices.SortFunc(out.Wounded, m.ages)
	for _, x := range out.Wounded {
		m.drop(x)
	}
	out.Granted = m.goOn()
	return out, api.OK
}

func (m *model) prepare(x api.Tx) (lock.Out, api.Errno) {
	if _, is := m.stamp(x); !is {
		return lock.Out{}, api.ErrNone
	}
	if m.isWaiting(x) {
		return lock.Out{}, api.ErrState
	}
	if m.isPrepared(x) {
		return lock.Out{}, api.OK
	}
	m.prepared = append(m.prepared, x)
	m.locks = slices.DeleteFunc(m.locks, func(c claim) bool { return c.tx == x && c.mode == toRead })
	return lock.Out{Granted: m.goOn()}, api.OK
}

func (m *model) release(x api.Tx) (lock.Out, api.Errno) {
	if _, is := m.stamp(x); !is {
		return lock.Out{}, api.ErrNone
	}
	m.drop(x)
	return lock.Out{Granted: m.goOn()}, api.OK
}

func (m *model) restore(x api.Tx, keys []api.Key) api.Errno {
	if _, is := m.stamp(x); is {
		return api.ErrThere
	}
	for _, c := range m.locks {
		if slices.Contains(keys, c.key) {
			return api.ErrState
		}
	}
	if len(m.users) == mostUsers {
		return api.ErrMany
	}
	m.users = append(m.users, api.Stamp{Tx: x})
	m.prepared = append(m.prepared, x)
	for _, k := range keys {
		m.locks = append(m.locks, claim{x, k, toWrite})
	}
	return api.OK
}

func (m *model) drop(x api.Tx) {
	m.users = slices.DeleteFunc(m.users, func(s api.Stamp) bool { return s.Tx == x })
	m.prepared = slices.DeleteFunc(m.prepared, func(y api.Tx) bool { return y == x })
	m.locks = slices.DeleteFunc(m.locks, func(c claim) bool { return c.tx == x })
	m.waits = slices.DeleteFunc(m.waits, func(c claim) bool { return c.tx == x })
}

// goOn goes over all waits of all keys.
func (m *model) goOn() []lock.Got {
	slices.SortFunc(m.waits, func(a, b claim) int {
		return cmp.Or(bytes.Compare(a.key[:], b.key[:]), m.ages(a.tx, b.tx))
	})
	var out []lock.Got
	var left []claim
	for _, wait := range m.waits {
		// Those that are left stand ahead of it: the ones of its key are older.
		inTheWay := func(c claim) bool { return c.key == wait.key && !together(c, wait) }
		if slices.ContainsFunc(m.locks, inTheWay) || slices.ContainsFunc(left, inTheWay) {
			left = append(left, wait)
			continue
		}
		wait.mode = max(wait.mode, modeOf(m.locks, wait.tx, wait.key))
		m.locks = append(without(m.locks, wait.tx, wait.key), wait)
		out = append(out, lock.Got{Tx: wait.tx, Key: wait.key, Mode: wait.mode})
	}
	m.waits = left
	return out
}

func (m *model) rising() []api.Tx {
	var out []api.Tx
	for _, s := range m.users {
		out = append(out, s.Tx)
	}
	slices.SortFunc(out, byName)
	return out
}

func (m *model) queue(k api.Key) []api.Tx {
	var out []api.Tx
	for _, c := range m.waits {
		if c.key == k {
			out = append(out, c.tx)
		}
	}
	slices.SortFunc(out, m.ages)
	return out
}

func together(a, b claim) bool { return a.tx == b.tx || a.mode == toRead && b.mode == toRead }

func modeOf(list []claim, x api.Tx, k api.Key) uint8 {
	for _, c := range list {
		if c.tx == x && c.key == k {
			return c.mode
		}
	}
	return 0
}

func without(list []claim, x api.Tx, k api.Key) []claim {
	return slices.DeleteFunc(list, func(c claim) bool { return c.tx == x && c.key == k })
}

func byName(a, b api.Tx) int {
	return cmp.Or(cmp.Compare(a.Node, b.Node), cmp.Compare(a.Boot, b.Boot), cmp.Compare(a.Num, b.Num))
}

func byAge(a, b api.Stamp) int { return cmp.Or(cmp.Compare(a.Time, b.Time), byName(a.Tx, b.Tx)) }

// chance is a row of numbers, the same each time.
type chance uint64

func (x *chance) below(n int) int {
	*x ^= *x << 13
	*x ^= *x >> 7
	*x ^= *x << 17
	return int(uint64(*x>>11) % uint64(n))
}

// shuffled is a list in another order.
func shuffled[T any](x *chance, list []T) []T {
	out := slices.Clone(list)
	for n := range out {
		m := n + x.below(len(out)-n)
		out[n], out[m] = out[m], out[n]
	}
	return out
}
