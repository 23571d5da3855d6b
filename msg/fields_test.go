package msg_test

import (
	"bytes"
	"slices"
	"testing"

	"parrel/api"
	"parrel/code"
	"parrel/msg"
)

// P10.3

// items are all: those that may be, and those that may not.
func items() []api.Item { return slices.Concat(goodItems(), badItems(), []api.Item{{}}) }

// lists are all writes: those that may be, and those that may not.
func lists() [][]api.Write { return append(append(goodWrites(), badWrites()...), nil) }

func TestPutItem(t *testing.T) {
	for _, i := range items() {
		var w code.Writer
		w.Text("abc")
		msg.PutItem(&w, i)
		msg.PutItem(&w, i)
		want := join(piecesOfItem(i))
		if got := w.Bytes(); !bytes.Equal(got, slices.Concat([]byte("\x03abc"), want, want)) {
			t.Errorf("%v: % X", i, got)
		}
		msg.PutItem(nil, i)
	}
}

func TestPutWrites(t *testing.T) {
	for _, l := range lists() {
		var w code.Writer
		w.Text("abc")
		msg.PutWrites(&w, l)
		msg.PutWrites(&w, l)
		want := join(piecesOfWrites(l))
		if got := w.Bytes(); !bytes.Equal(got, slices.Concat([]byte("\x03abc"), want, want)) {
			t.Errorf("%v: % X", l, got)
		}
		msg.PutWrites(nil, l)
	}
}

// behind is a reader that has read a byte, and has some bytes left behind b.
func behind(b []byte) *code.Reader {
	r := code.New(slices.Concat([]byte{9}, b, []byte{1, 2, 3}))
	r.Byte()
	return r
}

// checkFault asks for the reader's fault, at a byte of what is behind its first one.
func checkFault(t *testing.T, r *code.Reader, want api.Fault) {
	t.Helper()
	want.At++
	if r.Fault() != want || r.Left() != 0 {
		t.Errorf("%v, not %v, %d left", r.Fault(), want, r.Left())
	}
}

// What is read need not be an item that may be: just its numbers are at most what they may be.
func TestGetItem(t *testing.T) {
	for _, i := range items() {
		r := behind(join(piecesOfItem(i)))
		got := msg.GetItem(r)
		if want, is := tooHigh(piecesOfItem(i)); is {
			checkFault(t, r, want)
			i = api.Item{}
		} else if r.Left() != 3 || r.Fault() != (api.Fault{}) {
			t.Errorf("%v: %d left, %v", i, r.Left(), r.Fault())
		}
		if got != i {
			t.Errorf("%v, not %v", got, i)
		}
	}
}

func TestGetWrites(t *testing.T) {
	for _, l := range lists() {
		r := behind(join(piecesOfWrites(l)))
		got := msg.GetWrites(r)
		if want, is := tooHigh(piecesOfWrites(l)); is {
			checkFault(t, r, want)
			l = nil
		} else if r.Left() != 3 || r.Fault() != (api.Fault{}) {
			t.Errorf("%v: %d left, %v", l, r.Left(), r.Fault())
		}
		if !slices.Equal(got, l) {
			t.Errorf("%v, not %v", got, l)
		}
	}
}

// Of what is cut nothing is read, not even what was whole ahead of the cut.
func TestGetOfWhatIsCut(t *testing.T) {
	item := goodItems()[1]
	checkCut(t, piecesOfItem(item), func(r *code.Reader) bool { return msg.GetItem(r) == api.Item{} })
	checkCut(t, piecesOfWrites(many(4)), func(r *code.Reader) bool { return len(msg.GetWrites(r)) == 0 })
}

func checkCut(t *testing.T, pieces []piece, isNothing func(r *code.Reader) bool) {
	t.Helper()
	b := join(pieces)
	begin := 0
	for _, p := range pieces {
		for size := range p.bytes {
			r := code.New(append([]byte{9}, b[:begin+size]...))
			r.Byte()
			for range 2 {
				if !isNothing(r) {
					t.Errorf("%d bytes: something was read", begin+size)
				}
				checkFault(t, r, fault(api.ErrEnd, begin))
			}
		}
		begin += len(p.bytes)
	}
}

func TestGetOfNothing(t *testing.T) {
	if msg.GetItem(nil) != (api.Item{}) || len(msg.GetWrites(nil)) != 0 {
		t.Error("a nil reader has something")
	}
	if msg.GetItem(new(code.Reader)) != (api.Item{}) || len(msg.GetWrites(new(code.Reader))) != 0 {
		t.Error("a reader of no bytes has something")
	}
	for _, pieces := range [][]piece{piecesOfItem(goodItems()[1]), piecesOfWrites(many(2))} {
		r := code.New(append([]byte{2}, join(pieces)...))
		r.Bool()
		if msg.GetItem(r) != (api.Item{}) || len(msg.GetWrites(r)) != 0 || r.Fault() != fault(api.ErrForm, 0) {
			t.Error("something was read behind a fault", r.Fault())
		}
	}
}

// What is put, behind one another, is got, and nothing is left.
func TestWhatIsPutIsGot(t *testing.T) {
	var w code.Writer
	for _, l := range goodWrites() {
		for _, i := range goodItems() {
			msg.PutItem(&w, i)
			msg.PutWrites(&w, l)
		}
	}
	r := code.New(w.Bytes())
	for _, l := range goodWrites() {
		for _, i := range goodItems() {
			if got := msg.GetItem(r); got != i {
				t.Fatal(got, i)
			}
			if got := msg.GetWrites(r); !slices.Equal(got, l) {
				t.Fatal(got, l)
			}
		}
	}
	if r.Left() != 0 || r.End() != (api.Fault{}) {
		t.Error(r.Left(), r.End())
	}
}
