package store

import (
	"slices"

	"parrel/api"
	"parrel/rec"
)

// nowhere is the place of a record that is not there.
const nowhere = -1

// put appends a record, and turns the state by it.
func (s *Store) put(r rec.Rec) api.Errno {
	if why := s.log.Append(r); why != api.OK {
		return why
	}
	s.apply(r)
	return api.OK
}

// putForced is put of a record that is to be there whatever comes: the state turns only when it is.
func (s *Store) putForced(r rec.Rec) api.Errno {
	if why := s.log.Append(r); why != api.OK {
		return why
	}
	if why := s.log.Force(); why != api.OK {
		return why
	}
	s.apply(r)
	return api.OK
}

// keep keeps a record, if all that has to come behind it has room, too. The log is laid anew, if too little is left.
func (s *Store) keep(r rec.Rec) api.Errno {
	own := s.records()
	size := s.log.Size(own...)
	if s.log.Room() < s.wholeRoom(size, r) {
		return api.ErrFull
	}
	if s.log.Left() < s.freeRoom(size, r) {
		// That it is full is told ahead of that the power is off.
		if s.log.Left() < size {
			return api.ErrFull
		}
		if why := s.log.Again(own...); why != api.OK {
			return why
		}
	}
	return s.putForced(r)
}

// wholeRoom is the least room of a disk on which a record is kept, if the state's records have some size.
func (s *Store) wholeRoom(size int, r rec.Rec) int {
	room := 2*size + s.roomOfStaged()
	if r.Kind == rec.Boot {
		return room + spare
	}
	return room + 4*s.log.Size(r) + spareOfOthers
}

// freeRoom is the least room that is left where a record is kept without laying the log anew.
func (s *Store) freeRoom(size int, r rec.Rec) int {
	room := size + s.roomOfStaged() + spare
	if r.Kind == rec.Boot {
		return room
	}
	return room + 2*s.log.Size(r)
}

func (s *Store) roomOfStaged() int { return spareOfStaged * len(s.staged.All()) }

// clean lets go what stands in the log twice, as the power failed while it was laid anew: what it had, or what was laid. It answers the records that are left.
func (s *Store) clean(first []api.Write, recs []rec.Rec) ([]rec.Rec, api.Errno) {
	at := laidAt(recs)
	if at == nowhere {
		return recs, api.OK
	}
	ahead, laid := recs[:at], recs[at:]
	if s.same(made(first, laid)) {
		return laid, s.drop(ahead)
	}
	// That is asked of the boot, too: one that was a store's never comes again.
	if was := made(first, ahead); was.boot == s.boot && s.same(was) {
		return ahead, s.trim(ahead)
	}
	return recs, api.OK
}

// reclaim lets go what is left of a laying that the power ended within an opening, if the boot that is to be kept has no room without that. clean goes past such a laying, as it begins with a boot that those ahead of it did not make.
func (s *Store) reclaim(first []api.Write, recs []rec.Rec) api.Errno {
	at := lastBoot(recs)
	if at == nowhere || !s.lacksRoom() {
		return api.OK
	}
	ahead, part, laid := recs[:at], recs[at:], s.records()
	laid[0] = part[0]
	if !begins(laid, part) {
		return api.OK
	}
	if s.same(made(first, part)) {
		return s.drop(ahead)
	}
	if s.same(made(first, ahead)) && s.log.Left()+s.log.Size(part...) >= s.log.Size(laid...) {
		// Nobody was answered that boot, as an opened store has more left: it comes again, or its greater number could need a byte that is not there.
		s.boot = part[0].N
		return s.trim(ahead)
	}
	return api.OK
}

// lacksRoom tells whether a disk whose room is enough for the state's boot has too little left to lay it.
func (s *Store) lacksRoom() bool {
	size := s.log.Size(s.records()...)
	return s.log.Room() >= s.wholeRoom(size, rec.Rec{Kind: rec.Boot, N: s.boot}) && s.log.Left() < size
}

// drop lets the log's first records go.
func (s *Store) drop(ahead []rec.Rec) api.Errno {
	if why := s.log.Drop(s.log.Size(ahead...)); why != api.OK {
		return why
	}
	return s.log.Force()
}

// trim keeps just the log's first records.
func (s *Store) trim(ahead []rec.Rec) api.Errno { return s.log.Trim(s.log.Size(ahead...)) }

// laidAt is the place of the last record Boot that tells the boot that those ahead of it made, as the first one of a laying does.
func laidAt(recs []rec.Rec) int {
	at, boot := nowhere, uint32(0)
	for n, r := range recs {
		if r.Kind != rec.Boot {
			continue
		}
		if r.N == boot {
			at = n
		}
		boot = r.N
	}
	return at
}

// lastBoot is the place of the last record Boot.
func lastBoot(recs []rec.Rec) int {
	for at := len(recs) - 1; at >= 0; at-- {
		if recs[at].Kind == rec.Boot {
			return at
		}
	}
	return nowhere
}

// begins tells whether a list begins with another one.
func begins(list, part []rec.Rec) bool {
	return len(part) <= len(list) && slices.EqualFunc(part, list[:len(part)], rec.Same)
}
