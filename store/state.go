package store

import (
	"maps"
	"slices"

	"parrel/api"
	"parrel/ids"
	"parrel/item"
	"parrel/rec"
	"parrel/stage"
)

// state is what records make of first items.
type state struct {
	boot      uint32
	items     *item.Table
	staged    *stage.Stage
	decisions map[api.Tx]Decision
}

// begin is the state of first items, and whether all of them can be installed.
func begin(first []api.Write) (state, bool) {
	st := state{items: item.New(), staged: stage.New(), decisions: make(map[api.Tx]Decision)}
	for _, x := range first {
		if st.items.Install(x.Key, x.Item) != api.OK {
			return state{}, false
		}
	}
	return st, true
}

// made is what records make of first items, which can be installed.
func made(first []api.Write, recs []rec.Rec) state {
	st, _ := begin(first)
	for _, r := range recs {
		st.apply(r)
	}
	return st
}

// apply is what one record makes of a state. What is refused turns nothing: it was overtaken, or stands in the log twice.
func (st *state) apply(r rec.Rec) {
	switch r.Kind {
	case rec.Boot:
		st.boot = r.N
	case rec.Prepared:
		st.staged.Put(r.Tx, r.Reg, r.Writes)
	case rec.Done:
		writes, _ := st.staged.Take(r.Tx)
		for _, x := range writes {
			st.items.Install(x.Key, x.Item)
		}
	case rec.Undone:
		st.staged.Take(r.Tx)
	case rec.Decided:
		if !st.isDecided(r.Tx) {
			st.decisions[r.Tx] = Decision{r.Tx, r.Members, r.Writes, r.Missing}.copied()
		}
	case rec.Ended:
		delete(st.decisions, r.Tx)
	case rec.Fresh:
		st.items.Install(r.Key, r.Item)
	}
}

// records are the state's own, that make it of the first items again.
func (st *state) records() []rec.Rec {
	out := []rec.Rec{{Kind: rec.Boot, N: st.boot}}
	for _, x := range st.items.All() {
		out = append(out, rec.Rec{Kind: rec.Fresh, Key: x.Key, Item: x.Item})
	}
	for _, t := range st.staged.All() {
		writes, g, _ := st.staged.Writes(t)
		out = append(out, rec.Rec{Kind: rec.Prepared, Tx: t, Reg: g, Writes: writes})
	}
	for _, x := range st.rising() {
		out = append(out, x.record())
	}
	return out
}

// same tells whether two states are the same, whatever their boots.
func (st *state) same(other state) bool {
	return slices.EqualFunc(st.records()[1:], other.records()[1:], rec.Same)
}

func (st *state) isStaged(t api.Tx) bool {
	_, _, is := st.staged.Writes(t)
	return is
}

func (st *state) isDecided(t api.Tx) bool {
	_, is := st.decisions[t]
	return is
}

// rising are copies of all decisions, by their names.
func (st *state) rising() []Decision {
	var out []Decision
	for _, t := range slices.SortedFunc(maps.Keys(st.decisions), ids.Txs) {
		out = append(out, st.decisions[t].copied())
	}
	return out
}

// refusal is why writes can not be prepared by what the items are.
func (st *state) refusal(l []api.Write) api.Errno {
	// All keys are asked for ahead of any version: a key that is none is told first, wherever it stands.
	for _, x := range l {
		if _, is := st.items.Get(x.Key); !is {
			return api.ErrNone
		}
	}
	for _, x := range l {
		if there, _ := st.items.Get(x.Key); x.Item.Version <= there.Version {
			return api.ErrOld
		}
	}
	return api.OK
}

// installing is what a table would answer to an item of a key, of which it has another one: asked of a table of its own, as the state's would take it.
func installing(k api.Key, there, i api.Item) api.Errno {
	alone := item.New()
	alone.Install(k, there)
	return alone.Install(k, i)
}

func (x Decision) record() rec.Rec {
	return rec.Rec{Kind: rec.Decided, Tx: x.Tx, Members: x.Members, Writes: x.Writes, Missing: x.Missing}
}

func (x Decision) copied() Decision {
	x.Writes, x.Missing = slices.Clone(x.Writes), slices.Clone(x.Missing)
	return x
}
