package ids_test

import (
	"bytes"
	"math"
	"slices"
	"strings"
	"testing"

	"parrel/api"
	"parrel/bits"
	"parrel/code"
	"parrel/ids"
)

// most is MaxCount, as the document tells it.
const most = 1<<31 - 1

// edges are numbers at the ends of what may be, of the bytes of a short number, and of the type; rising.
func edges() []uint32 {
	return []uint32{0, 1, 2, 127, 128, 300, 16383, 16384, most - 1, most, most + 1, math.MaxUint32 - 1, math.MaxUint32}
}

// few are of the edges those that an order, or a field, could take for one another.
func few() []uint32 { return []uint32{0, 1, 256, most, most + 1, math.MaxUint32} }

// txs are names of the numbers, rising; those that may be and others.
func txs(numbers []uint32) []api.Tx {
	var out []api.Tx
	for _, node := range []uint8{0, 1, 7, 8, 127, 128, 255} {
		for _, boot := range numbers {
			for _, num := range numbers {
				out = append(out, api.Tx{Node: node, Boot: boot, Num: num})
			}
		}
	}
	return out
}

// stamps are some, rising.
func stamps() []api.Stamp {
	var out []api.Stamp
	for _, time := range few() {
		for _, tx := range txs([]uint32{0, 1, most, math.MaxUint32}) {
			out = append(out, api.Stamp{Time: time, Tx: tx})
		}
	}
	return out
}

func regs() []api.Reg {
	var out []api.Reg
	for _, boot := range edges() {
		for _, n := range edges() {
			out = append(out, api.Reg{Boot: boot, N: n})
		}
	}
	return out
}

// keys are some, rising; those that may be and others.
func keys() []api.Key {
	return []api.Key{
		{}, {0, 0, 0, 0, 0, 0, 0, 1}, {0, 1}, {0, 255, 255, 255, 255, 255, 255, 255}, {1}, {1, 0, 0, 0, 0, 0, 0, 1}, {1, 1},
		{'a'}, {'a', 0, 'b'}, {'a', 'a', 'a', 'a', 'a', 'a', 'a', 'a'}, {'a', 'b'}, {'a', 'b', 'c'}, {'b'}, {'b', 'a'},
		{127}, {127, 255}, {128}, {255}, {255, 0, 0, 0, 0, 0, 0, 255}, {255, 255, 255, 255, 255, 255, 255, 254}, {255, 255, 255, 255, 255, 255, 255, 255},
	}
}

// texts are some that are a key's name, of every number of bytes and with every byte.
func texts() []string {
	out := []string{"ab", "ä", "日本", "\xFF\xC0\x80", " ", "a b", "12345678"}
	for c := 1; c < 256; c++ {
		for size := 1; size <= 8; size++ {
			same := strings.Repeat(string([]byte{byte(c)}), size)
			out = append(out, same, same[1:]+"a", "a"+same[1:])
		}
	}
	return out
}

// P5.1

func TestExample(t *testing.T) {
	if k, why := ids.KeyOf("ab"); k != (api.Key{0x61, 0x62, 0, 0, 0, 0, 0, 0}) || why != api.OK {
		t.Error(k, why)
	}
	three, four := api.Stamp{Time: 3, Tx: api.Tx{Node: 7, Boot: 9, Num: 9}}, api.Stamp{Time: 4, Tx: api.Tx{Node: 0, Boot: 1, Num: 1}}
	if ids.Stamps(three, four) != -1 || ids.Stamps(four, three) != 1 {
		t.Error(ids.Stamps(three, four), ids.Stamps(four, three))
	}
}

func TestKeyOf(t *testing.T) {
	for _, s := range texts() {
		var want api.Key
		for i := range len(s) {
			want[i] = s[i]
		}
		if got, why := ids.KeyOf(s); got != want || why != api.OK {
			t.Errorf("%q: %v, %v", s, got, why)
		}
	}
}

func TestKeyOfWhatIsNoKey(t *testing.T) {
	wrong := []string{"", "\x00", "123456789", "a\x00", "\x00a", "12345678\x00", strings.Repeat("x", 16), strings.Repeat("x", 256), strings.Repeat("x", 264), strings.Repeat("\x00", 8), strings.Repeat("x", 1<<16)}
	for size := 1; size <= 8; size++ {
		for at := range size {
			b := bytes.Repeat([]byte{'a'}, size)
			b[at] = 0
			wrong = append(wrong, string(b))
		}
	}
	for _, s := range wrong {
		if got, why := ids.KeyOf(s); got != (api.Key{}) || why != api.ErrArg {
			t.Errorf("%q: %v, %v", s, got, why)
		}
	}
}

// Of every way in which zeros and others can stand in a key.
func TestName(t *testing.T) {
	for set := range 256 {
		for _, c := range []byte{1, 'a', 128, 255} {
			var k api.Key
			size := 0
			for i := range k {
				if set>>i&1 == 1 {
					k[i] = c
					size++
				}
			}
			want, may := "", false
			if size > 0 && set == 1<<size-1 {
				want, may = strings.Repeat(string([]byte{c}), size), true
			}
			if got, is := ids.Name(k); got != want || is != may {
				t.Errorf("%v: %q, %v, not %q, %v", k, got, is, want, may)
			}
		}
	}
}

// mayCount is whether a number is from 1 to MaxCount.
func mayCount(n uint32) bool { return 1 <= n && n <= most }

func TestTxMay(t *testing.T) {
	for node := range 256 {
		for _, boot := range edges() {
			for _, num := range edges() {
				x := api.Tx{Node: uint8(node), Boot: boot, Num: num}
				if want := node <= 7 && mayCount(boot) && mayCount(num); ids.TxMay(x) != want {
					t.Fatalf("%v: %v", x, !want)
				}
			}
		}
	}
}

func TestStampMay(t *testing.T) {
	for _, time := range edges() {
		for _, x := range txs(edges()) {
			s := api.Stamp{Time: time, Tx: x}
			if want := time <= most && x.Node <= 7 && mayCount(x.Boot) && mayCount(x.Num); ids.StampMay(s) != want {
				t.Fatalf("%v: %v", s, !want)
			}
		}
	}
	if !ids.StampMay(api.Stamp{Time: 0, Tx: api.Tx{Node: 0, Boot: 1, Num: 1}}) {
		t.Error("a stamp of the time 0 may be")
	}
}

func TestRegMay(t *testing.T) {
	for _, g := range regs() {
		if want := mayCount(g.Boot) && mayCount(g.N); ids.RegMay(g) != want {
			t.Errorf("%v: %v", g, !want)
		}
	}
}

// checkRises asks that a call tells of any two of a list, that is in order and has none twice, which one comes first.
func checkRises[T any](t *testing.T, order func(a, b T) int, list []T) {
	t.Helper()
	for i, a := range list {
		for j, b := range list {
			want := 0
			if i < j {
				want = -1
			} else if i > j {
				want = 1
			}
			if got := order(a, b); got != want {
				t.Fatalf("%v and %v: %d, not %d", a, b, got, want)
			}
		}
	}
}

func TestKeysRise(t *testing.T) { checkRises(t, ids.Keys, keys()) }

func TestTxsRise(t *testing.T) { checkRises(t, ids.Txs, txs(edges())) }

func TestStampsRise(t *testing.T) { checkRises(t, ids.Stamps, stamps()) }

// Each byte of a key counts, and one ahead counts for more than all behind it.
func TestKeysRiseByteByByte(t *testing.T) {
	for at := range 8 {
		var low, high api.Key
		for i := range low {
			low[i], high[i] = 5, 5
			if i > at {
				low[i], high[i] = 255, 0
			}
		}
		for a := range 256 {
			for b := range a {
				high[at], low[at] = byte(a), byte(b)
				if ids.Keys(low, high) != -1 || ids.Keys(high, low) != 1 {
					t.Fatalf("%v and %v: %d, %d", low, high, ids.Keys(low, high), ids.Keys(high, low))
				}
			}
		}
	}
}

// P5.2

// fieldsOf are the bytes of numbers, by layer 1.
func fieldsOf(numbers ...uint32) []byte {
	var out []byte
	for _, n := range numbers {
		out = bits.Short(out, uint64(n))
	}
	return out
}

func bytesOfTx(x api.Tx) []byte { return append([]byte{x.Node}, fieldsOf(x.Boot, x.Num)...) }

func bytesOfStamp(s api.Stamp) []byte { return append(fieldsOf(s.Time), bytesOfTx(s.Tx)...) }

func bytesOfReg(g api.Reg) []byte { return fieldsOf(g.Boot, g.N) }

// checkPut asks that what is put stands behind what was written, as the chapter says, be it a name that may be or not.
func checkPut[T any](t *testing.T, put func(*code.Writer, T), want func(T) []byte, list []T) {
	t.Helper()
	for _, x := range list {
		var w code.Writer
		w.Text("abc")
		put(&w, x)
		put(&w, x)
		if got := w.Bytes(); !bytes.Equal(got, slices.Concat([]byte("\x03abc"), want(x), want(x))) {
			t.Fatalf("%v: % X", x, got)
		}
		put(nil, x)
	}
}

func TestPut(t *testing.T) {
	checkPut(t, ids.PutTx, bytesOfTx, txs(edges()))
	checkPut(t, ids.PutStamp, bytesOfStamp, stamps())
	checkPut(t, ids.PutReg, bytesOfReg, regs())
}

func TestPutBytes(t *testing.T) {
	var w code.Writer
	ids.PutTx(&w, api.Tx{Node: 200, Boot: 300, Num: 5})
	ids.PutStamp(&w, api.Stamp{Time: 128, Tx: api.Tx{Node: 1, Boot: 2, Num: 3}})
	ids.PutReg(&w, api.Reg{Boot: 7, N: most})
	want := []byte{200, 0xAC, 2, 5, 0x80, 1, 1, 2, 3, 7, 0xFF, 0xFF, 0xFF, 0xFF, 7}
	if got := w.Bytes(); !bytes.Equal(got, want) {
		t.Errorf("% X, not % X", got, want)
	}
}

// checkGet asks for what is read of b, and that of the bytes behind it none is taken.
func checkGet[T comparable](t *testing.T, get func(*code.Reader) T, b []byte, want T) {
	t.Helper()
	r := code.New(slices.Concat([]byte{9}, b, []byte{1, 2, 3}))
	r.Byte()
	if got := get(r); got != want || r.Fault() != (api.Fault{}) || r.Left() != 3 {
		t.Fatalf("% X: %v, not %v; %v, %d left", b, got, want, r.Fault(), r.Left())
	}
}

// checkGetFails asks for a fault at a byte of b, and for zero: of the fields ahead of the fault, too.
func checkGetFails[T comparable](t *testing.T, get func(*code.Reader) T, b []byte, why api.Errno, at int) {
	t.Helper()
	var none T
	r := code.New(append([]byte{9}, b...))
	r.Byte()
	want := api.Fault{Why: why, At: at + 1}
	for range 2 {
		if got := get(r); got != none || r.Fault() != want || r.Left() != 0 {
			t.Fatalf("% X: %v, %v, not %v", b, got, r.Fault(), want)
		}
	}
}

// checkGetAll asks for each of a list: for what was put, if its numbers are at most MaxCount, and of fields that were cut for a fault.
func checkGetAll[T comparable](t *testing.T, get func(*code.Reader) T, of func(T) []byte, sizes func(T) []int, high func(T) int, list []T) {
	t.Helper()
	for _, x := range list {
		b := of(x)
		if field := high(x); field >= 0 {
			checkGetFails(t, get, append(b, 1, 1, 1, 1), api.ErrMany, sum(sizes(x)[:field]))
			continue
		}
		checkGet(t, get, b, x)
		for cut := range b {
			checkGetFails(t, get, b[:cut], api.ErrEnd, beginOf(cut, sizes(x)))
		}
	}
}

func sum(list []int) int {
	out := 0
	for _, n := range list {
		out += n
	}
	return out
}

// beginOf is the first byte of the field that the byte at is in.
func beginOf(at int, sizes []int) int {
	begin := 0
	for _, size := range sizes {
		if at < begin+size {
			break
		}
		begin += size
	}
	return begin
}

func sizesOf(numbers ...uint32) []int {
	var out []int
	for _, n := range numbers {
		out = append(out, len(fieldsOf(n)))
	}
	return out
}

// firstHigh is the place of the first number above MaxCount, and -1 if there is none.
func firstHigh(numbers ...uint32) int {
	return slices.IndexFunc(numbers, func(n uint32) bool { return n > most })
}

func TestGetTx(t *testing.T) {
	sizes := func(x api.Tx) []int { return sizesOf(0, x.Boot, x.Num) }
	high := func(x api.Tx) int { return firstHigh(0, x.Boot, x.Num) }
	checkGetAll(t, ids.GetTx, bytesOfTx, sizes, high, txs(edges()))
}

func TestGetStamp(t *testing.T) {
	sizes := func(s api.Stamp) []int { return sizesOf(s.Time, 0, s.Tx.Boot, s.Tx.Num) }
	high := func(s api.Stamp) int { return firstHigh(s.Time, 0, s.Tx.Boot, s.Tx.Num) }
	checkGetAll(t, ids.GetStamp, bytesOfStamp, sizes, high, stamps())
}

func TestGetReg(t *testing.T) {
	sizes := func(g api.Reg) []int { return sizesOf(g.Boot, g.N) }
	high := func(g api.Reg) int { return firstHigh(g.Boot, g.N) }
	checkGetAll(t, ids.GetReg, bytesOfReg, sizes, high, regs())
}

// What is read need not be a name that may be.
func TestGetTakesAnyNode(t *testing.T) {
	for node := range 256 {
		checkGet(t, ids.GetTx, []byte{byte(node), 0, 0}, api.Tx{Node: uint8(node)})
		checkGet(t, ids.GetStamp, []byte{4, byte(node), 0, 3}, api.Stamp{Time: 4, Tx: api.Tx{Node: uint8(node), Num: 3}})
	}
}

func TestGetOfNumbersWithoutForm(t *testing.T) {
	for _, b := range [][]byte{{0x80, 0}, {0xFF, 0xFF, 0xFF, 0xFF, 0xFF, 0xFF, 0xFF, 0xFF, 0xFF, 2}} {
		checkGetFails(t, ids.GetTx, append(append([]byte{1}, b...), 5), api.ErrForm, 1)
		checkGetFails(t, ids.GetTx, append([]byte{1, 5}, b...), api.ErrForm, 2)
		checkGetFails(t, ids.GetStamp, append(slices.Clone(b), 1, 5, 5), api.ErrForm, 0)
		checkGetFails(t, ids.GetStamp, append([]byte{3, 1, 5}, b...), api.ErrForm, 3)
		checkGetFails(t, ids.GetReg, append(slices.Clone(b), 5), api.ErrForm, 0)
		checkGetFails(t, ids.GetReg, append([]byte{5}, b...), api.ErrForm, 1)
	}
	// A number that no 32 bits hold is refused, not cut to what they hold.
	for _, n := range []uint64{1 << 31, 1 << 32, 1<<32 + 5, math.MaxUint64} {
		checkGetFails(t, ids.GetReg, bits.Short([]byte{5}, n), api.ErrMany, 1)
	}
}

// checkNothing asks for zero of readers that have a fault already, that are nil, and that nobody made.
func checkNothing[T comparable](t *testing.T, get func(*code.Reader) T) {
	t.Helper()
	var none T
	if got := get(nil); got != none {
		t.Error("nil:", got)
	}
	if got := get(new(code.Reader)); got != none {
		t.Error("of no bytes:", got)
	}
	r := code.New([]byte{1, 2, 3, 4, 5, 6, 7, 8})
	r.Byte()
	r.Bool()
	if got, want := get(r), (api.Fault{Why: api.ErrForm, At: 1}); got != none || r.Fault() != want {
		t.Error("behind a fault:", got, r.Fault())
	}
}

func TestGetOfNothing(t *testing.T) {
	checkNothing(t, ids.GetTx)
	checkNothing(t, ids.GetStamp)
	checkNothing(t, ids.GetReg)
}

// P5.3

func TestSetTakesEachNameOnce(t *testing.T) {
	s := ids.New()
	if s == nil || len(s.List()) != 0 {
		t.Fatal("a new set has something")
	}
	for _, x := range txs(edges()) {
		if s.Has(x) || s.Drop(x) || !s.Add(x) || s.Add(x) || !s.Has(x) {
			t.Fatal(x)
		}
	}
	if got := s.List(); !slices.Equal(got, txs(edges())) {
		t.Fatal(len(got), "names")
	}
	for i, x := range txs(edges()) {
		if !s.Has(x) || s.Add(x) || !s.Drop(x) || s.Drop(x) || s.Has(x) {
			t.Fatal(x)
		}
		if i%100 == 0 && !slices.Equal(s.List(), txs(edges())[i+1:]) {
			t.Fatal("behind", x)
		}
	}
	if got := s.List(); len(got) != 0 {
		t.Error(got)
	}
}

// Names one field of which is another one's are told apart.
func TestSetTellsFieldsApart(t *testing.T) {
	s := ids.New()
	s.Add(api.Tx{Node: 1, Boot: 2, Num: 3})
	for _, x := range []api.Tx{{}, {Node: 1, Boot: 3, Num: 2}, {Node: 2, Boot: 1, Num: 3}, {Node: 0, Boot: 2, Num: 3}, {Node: 1, Boot: 2}, {Node: 1, Num: 3}} {
		if s.Has(x) || s.Drop(x) {
			t.Error(x)
		}
	}
	if got := s.List(); !slices.Equal(got, []api.Tx{{Node: 1, Boot: 2, Num: 3}}) {
		t.Error(got)
	}
}

// Many steps, by a rule without chance, held against a list that is kept in order.
func TestSetOfManySteps(t *testing.T) {
	all := txs(few())
	s := ids.New()
	var want []api.Tx
	x := uint64(88172645463325252)
	for step := range 20000 {
		x ^= x << 13
		x ^= x >> 7
		x ^= x << 17
		name := all[(x>>8)%uint64(len(all))]
		at, there := slices.BinarySearchFunc(want, name, ids.Txs)
		switch x % 3 {
		case 0:
			if s.Add(name) == there {
				t.Fatal("Add", step, name)
			}
			if !there {
				want = slices.Insert(want, at, name)
			}
		case 1:
			if s.Drop(name) != there {
				t.Fatal("Drop", step, name)
			}
			if there {
				want = slices.Delete(want, at, at+1)
			}
		default:
			if s.Has(name) != there {
				t.Fatal("Has", step, name)
			}
		}
		if step%50 == 0 && !slices.Equal(s.List(), want) {
			t.Fatal("List", step)
		}
	}
	if len(want) == 0 || !slices.Equal(s.List(), want) {
		t.Error(len(want), len(s.List()))
	}
}

// R4: what is answered is the caller's, and sets are apart from one another.
func TestListIsTheCallersOwn(t *testing.T) {
	one, two := ids.New(), ids.New()
	a, b := api.Tx{Node: 1, Boot: 1, Num: 1}, api.Tx{Node: 2, Boot: 1, Num: 1}
	one.Add(b)
	one.Add(a)
	list := one.List()
	clear(list)
	_ = append(list[:0], b, b, b)
	if got := one.List(); !slices.Equal(got, []api.Tx{a, b}) {
		t.Error("what was answered turned the set", got)
	}
	list = one.List()
	one.Drop(a)
	if !slices.Equal(list, []api.Tx{a, b}) {
		t.Error("the set turned what was answered", list)
	}
	if two.Has(b) || len(two.List()) != 0 {
		t.Error("another set has it", two.List())
	}
}

func TestSetsThatNobodyMade(t *testing.T) {
	for _, s := range []*ids.Set{nil, new(ids.Set), {}} {
		for _, x := range []api.Tx{{}, {Node: 1, Boot: 2, Num: 3}} {
			for range 2 {
				if s.Add(x) || s.Has(x) || s.Drop(x) || len(s.List()) != 0 {
					t.Error(s, x)
				}
			}
		}
	}
}

// P5.4

func TestATextIsItsKeysName(t *testing.T) {
	for _, s := range texts() {
		k, why := ids.KeyOf(s)
		if got, may := ids.Name(k); got != s || !may || why != api.OK {
			t.Errorf("%q: %v: %q, %v", s, k, got, may)
		}
	}
}

func TestAKeyIsItsNames(t *testing.T) {
	may := 0
	for c := range 1 << 16 {
		for _, rest := range [][]byte{nil, {'x'}, {0, 'x'}, {1, 2, 3, 4, 5, 6}} {
			k := api.Key{byte(c), byte(c >> 8)}
			copy(k[2:], rest)
			s, is := ids.Name(k)
			got, why := ids.KeyOf(s)
			if is && (got != k || why != api.OK) || !is && s != "" {
				t.Fatalf("%v: %q, %v: %v, %v", k, s, is, got, why)
			}
			if is {
				may++
			}
		}
	}
	// With nothing behind them the second byte may be 0; with one byte or six behind them neither may; with a 0 and a byte behind them none may be.
	if want := 255*256 + 255*255 + 255*255; may != want {
		t.Error(may, "keys may be, not", want)
	}
}

// P5.5

// checkOrder asks of any three of a list, in no order, that the call is one.
func checkOrder[T comparable](t *testing.T, order func(a, b T) int, list []T) {
	t.Helper()
	for _, a := range list {
		for _, b := range list {
			ab := order(a, b)
			if ab < -1 || ab > 1 || order(b, a) != -ab || (ab == 0) != (a == b) {
				t.Fatalf("%v and %v: %d, %d", a, b, ab, order(b, a))
			}
			for _, c := range list {
				if ab <= 0 && order(b, c) <= 0 && order(a, c) > 0 || ab < 0 && order(b, c) <= 0 && order(a, c) != -1 {
					t.Fatalf("%v, %v and %v: %d, %d, %d", a, b, c, ab, order(b, c), order(a, c))
				}
			}
		}
	}
}

// mixed is a list's elements, at most so many, in another order.
func mixed[T any](list []T, size int) []T {
	out := make([]T, 0, size)
	for i := range min(size, len(list)) {
		out = append(out, list[i*7919%len(list)])
	}
	return out
}

func TestOrders(t *testing.T) {
	checkOrder(t, ids.Keys, mixed(keys(), 100))
	checkOrder(t, ids.Txs, mixed(txs(few()), 120))
	checkOrder(t, ids.Stamps, mixed(stamps(), 120))
}

func TestSortedIsRising(t *testing.T) {
	list := mixed(txs(few()), len(txs(few())))
	slices.SortFunc(list, ids.Txs)
	if !slices.Equal(list, txs(few())) {
		t.Error("names do not rise")
	}
	all := mixed(stamps(), len(stamps()))
	slices.SortFunc(all, ids.Stamps)
	if !slices.Equal(all, stamps()) {
		t.Error("stamps do not rise")
	}
}

// P5.6

// What is put, all kinds behind one another, is got, and nothing is left.
func TestWhatIsPutIsGot(t *testing.T) {
	var w code.Writer
	fits := func(numbers ...uint32) bool { return firstHigh(numbers...) < 0 }
	names := slices.DeleteFunc(txs(edges()), func(x api.Tx) bool { return !fits(x.Boot, x.Num) })
	times := slices.DeleteFunc(stamps(), func(s api.Stamp) bool { return !fits(s.Time, s.Tx.Boot, s.Tx.Num) })
	knowings := slices.DeleteFunc(regs(), func(g api.Reg) bool { return !fits(g.Boot, g.N) })
	size := max(len(names), len(times), len(knowings))
	for i := range size {
		ids.PutTx(&w, names[i%len(names)])
		ids.PutStamp(&w, times[i%len(times)])
		ids.PutReg(&w, knowings[i%len(knowings)])
	}
	r := code.New(w.Bytes())
	for i := range size {
		x, s, g := ids.GetTx(r), ids.GetStamp(r), ids.GetReg(r)
		if x != names[i%len(names)] || s != times[i%len(times)] || g != knowings[i%len(knowings)] {
			t.Fatal(i, x, s, g, r.Fault())
		}
	}
	if r.Left() != 0 || r.End() != (api.Fault{}) {
		t.Error(r.Left(), r.End())
	}
}
