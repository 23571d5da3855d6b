package wal_test

import (
	"encoding/binary"
	"hash/crc32"
	"slices"
	"strings"
	"testing"

	"parrel/api"
	"parrel/disk"
	"parrel/rec"
	"parrel/wal"
)

// mostRoom is the greatest room of a disk, as the document tells it.
const mostRoom = 1 << 16

func boot(n uint32) rec.Rec { return rec.Rec{Kind: rec.Boot, N: n} }

func ended(num uint32) rec.Rec {
	return rec.Rec{Kind: rec.Ended, Tx: api.Tx{Node: 1, Boot: 2, Num: num}}
}

func item(version uint32, value string) api.Item {
	c := api.Config{Epoch: 1, R: 2, W: 2}
	copy(c.Votes[:], []uint8{1, 1, 1})
	return api.Item{Version: version, Value: value, Conf: c}
}

// writes are so many, of the longest values.
func writes(count int) []api.Write {
	var out []api.Write
	for n := range count {
		out = append(out, api.Write{Key: api.Key{'k', byte(n + 1)}, Item: item(7, strings.Repeat("v", 64))})
	}
	return out
}

// all are records of each kind, short ones and the longest ones.
func all() []rec.Rec {
	tx := api.Tx{Node: 1, Boot: 1, Num: 1}
	return []rec.Rec{
		boot(1),
		{Kind: rec.Fresh, Key: api.Key{'a'}, Item: item(1, "x")},
		{Kind: rec.Prepared, Tx: tx, Reg: api.Reg{Boot: 1, N: 1}, Writes: writes(2)},
		{Kind: rec.Done, Tx: tx},
		{Kind: rec.Prepared, Tx: tx, Reg: api.Reg{Boot: 1, N: 2}, Writes: writes(16)},
		{Kind: rec.Undone, Tx: tx},
		{Kind: rec.Decided, Tx: tx, Members: 3, Writes: writes(3), Missing: []uint64{4, 0, 255}},
		ended(1),
		boot(1<<31 - 1),
	}
}

// none are records that may not be.
func none() []rec.Rec {
	return []rec.Rec{
		{},
		{Kind: rec.Boot},
		{Kind: 8, N: 1},
		{Kind: 255},
		boot(1 << 31),
		{Kind: rec.Ended},
		{Kind: rec.Boot, N: 1, Members: 1},
		{Kind: rec.Prepared, Tx: api.Tx{Node: 1, Boot: 1, Num: 1}, Reg: api.Reg{Boot: 1, N: 1}},
		{Kind: rec.Prepared, Tx: api.Tx{Node: 1, Boot: 1, Num: 1}, Reg: api.Reg{Boot: 1, N: 1}, Writes: writes(17)},
	}
}

// framed is the frame of a load, told without package frame.
func framed(load []byte) []byte {
	length := binary.BigEndian.AppendUint16(nil, uint16(len(load)))
	sum := crc32.Checksum(append(slices.Clone(length), load...), crc32.MakeTable(crc32.Castagnoli))
	b := append([]byte{0xA7, 0x5E}, length...)
	b = binary.BigEndian.AppendUint32(b, sum)
	return append(b, load...)
}

// bytesOf are the frames of records.
func bytesOf(t *testing.T, recs ...rec.Rec) []byte {
	t.Helper()
	var out []byte
	for _, r := range recs {
		load, why := rec.Encode(r)
		if why != api.OK {
			t.Fatalf("%v may not be", r)
		}
		out = append(out, framed(load)...)
	}
	return out
}

// wholeIn are the records whose frames are whole in the first so many bytes of all their frames.
func wholeIn(t *testing.T, recs []rec.Rec, count int) []rec.Rec {
	t.Helper()
	for n := range recs {
		if len(bytesOf(t, recs[:n+1]...)) > count {
			return recs[:n]
		}
	}
	return recs
}

func sameList(a, b []rec.Rec) bool { return slices.EqualFunc(a, b, rec.Same) }

// beginsWith tells whether a list's first records are those.
func beginsWith(list, first []rec.Rec) bool {
	return len(list) >= len(first) && sameList(list[:len(first)], first)
}

func newDisk(t *testing.T, room int) *disk.Disk {
	t.Helper()
	d, why := disk.New(room)
	if why != api.OK {
		t.Fatal(why)
	}
	return d
}

// opened is the log of a disk, and its records.
func opened(t *testing.T, d *disk.Disk) (*wal.Log, []rec.Rec) {
	t.Helper()
	l, recs, why := wal.Open(d)
	if l == nil || why != api.OK {
		t.Fatalf("Open: %v, %v", l, why)
	}
	return l, recs
}

// logOf is a log that has records, all of them forced.
func logOf(t *testing.T, room int, recs ...rec.Rec) (*disk.Disk, *wal.Log) {
	t.Helper()
	d := newDisk(t, room)
	l, _ := opened(t, d)
	must(t, "Append", l.Append(recs...), api.OK)
	must(t, "Force", l.Force(), api.OK)
	return d, l
}

// lose turns the power of a disk off, if it is on, and on again.
func lose(t *testing.T, d *disk.Disk, keep int, cut bool) {
	t.Helper()
	if d.On() {
		must(t, "Fail", d.Fail(), api.OK)
	}
	must(t, "Start", d.Start(keep, cut, nil), api.OK)
}

// has opens a disk's log, which must have just those records.
func has(t *testing.T, d *disk.Disk, want ...rec.Rec) *wal.Log {
	t.Helper()
	l, got := opened(t, d)
	if !sameList(got, want) {
		t.Fatalf("it has %v; want %v", got, want)
	}
	return l
}

// must is an error that has to be that one.
func must(t *testing.T, what string, got, want api.Errno) {
	t.Helper()
	if got != want {
		t.Fatalf("%s: %v; want %v", what, got, want)
	}
}

// look is all that can be told of a disk.
type look struct {
	text        string
	why         api.Errno
	base, end   int
	first, sure int
	left        int
	on          bool
}

func seen(d *disk.Disk) look {
	b, why := d.Read()
	first, sure := d.Forced()
	return look{string(b), why, d.Base(), d.End(), first, sure, d.Left(), d.On()}
}

// stays tells of a disk that something turned.
func stays(t *testing.T, d *disk.Disk, was look) {
	t.Helper()
	if got := seen(d); got != was {
		t.Fatalf("it is %+v; it was %+v", got, was)
	}
}

// chance is a row of numbers, the same each time.
type chance uint64

func (x *chance) below(n int) int {
	*x ^= *x << 13
	*x ^= *x >> 7
	*x ^= *x << 17
	return int(uint64(*x>>11) % uint64(n))
}

// some are up to so many records, of which no two calls are likely to have the same.
func (x *chance) some(most int) []rec.Rec {
	var out []rec.Rec
	for range x.below(most + 1) {
		switch x.below(4) {
		case 0:
			out = append(out, boot(uint32(1+x.below(1<<30))))
		case 1:
			out = append(out, ended(uint32(1+x.below(1<<30))))
		case 2:
			out = append(out, rec.Rec{Kind: rec.Fresh, Key: api.Key{'f'}, Item: item(uint32(x.below(1<<30)), strings.Repeat("y", x.below(65)))})
		case 3:
			out = append(out, rec.Rec{Kind: rec.Decided, Tx: api.Tx{Boot: 1, Num: uint32(1 + x.below(1<<30))}, Writes: writes(1), Missing: []uint64{uint64(x.below(256))}})
		}
	}
	return out
}
