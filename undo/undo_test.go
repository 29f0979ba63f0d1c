package undo_test

import (
	"cmp"
	"encoding/binary"
	"fmt"
	"slices"
	"strings"
	"testing"

	"girder/api"
	"girder/disk"
	"girder/heap"
	"girder/page"
	"girder/pool"
	"girder/rec"
	"girder/smo"
	"girder/space"
	"girder/tree"
	"girder/txn"
	"girder/undo"
	"girder/wal"
)

const (
	room   = 64 // pages of the disks of these tests, where nothing else is said
	frames = 64 // of their pools

	mapBytes = 256 // of the map's slot
)

func wantErr(t *testing.T, what string, e, want api.Errno) {
	t.Helper()
	if e != want {
		t.Errorf("%s: %d, not %d", what, e, want)
	}
}

// store is a manager, and all that it stands on.
type store struct {
	*txn.Manager
	d *disk.Disk
	l *wal.Log
	p *pool.Pool
}

// over is a manager over a disk as it is.
func over(t *testing.T, d *disk.Disk, frames int) store {
	t.Helper()
	l, _, e := wal.Open(d)
	wantErr(t, "wal.Open", e, api.OK)
	p, e := pool.New(d, l, frames)
	wantErr(t, "pool.New", e, api.OK)
	return store{Manager: txn.New(p), d: d, l: l, p: p}
}

// bare is a manager over a new disk, with nothing on it.
func bare(t *testing.T, room, frames int) store {
	t.Helper()
	d, e := disk.New(room)
	wantErr(t, "disk.New", e, api.OK)
	return over(t, d, frames)
}

// laid is a manager over a new disk on which a map stands, in which the first two pages are taken.
func laid(t *testing.T, room, frames int) store {
	t.Helper()
	s := bare(t, room, frames)
	ops, e := space.Fresh(2)
	wantErr(t, "Fresh", e, api.OK)
	n := s.begin(t)
	for _, op := range ops {
		s.log(t, n, api.Change{Page: api.MapPage, Op: op})
	}
	s.commit(t, n)
	return s
}

// begun is a manager as most tests need it.
func begun(t *testing.T) store {
	t.Helper()
	return laid(t, room, frames)
}

// planted is such a manager with pages that were laid by hand.
func planted(t *testing.T, l ...api.Sheet) store {
	t.Helper()
	s := begun(t)
	for _, x := range l {
		wantErr(t, "pool.Put", s.p.Put(x), api.OK)
	}
	return s
}

func (s store) begin(t *testing.T) int {
	t.Helper()
	n, e := s.Begin()
	if e != api.OK {
		t.Fatal("Begin:", e)
	}
	return n
}

func (s store) commit(t *testing.T, n int) {
	t.Helper()
	wantErr(t, "Commit", s.Commit(n), api.OK)
}

func (s store) abort(t *testing.T, n int) {
	t.Helper()
	wantErr(t, "Abort", undo.Abort(s.Manager, n), api.OK)
}

// to goes back to a place.
func (s store) to(t *testing.T, n int, to api.LSN) {
	t.Helper()
	wantErr(t, "To", undo.To(s.Manager, n, to), api.OK)
}

// save is a savepoint.
func (s store) save(t *testing.T, n int) api.LSN {
	t.Helper()
	at, e := s.Save(n)
	wantErr(t, "Save", e, api.OK)
	return at
}

// log logs a change.
func (s store) log(t *testing.T, n int, c api.Change) api.LSN {
	t.Helper()
	at, e := s.Log(n, c)
	if e != api.OK {
		t.Fatalf("Log(%d, %v): %d", n, c, e)
	}
	return at
}

// get is a page.
func (s store) get(t *testing.T, n api.Page) api.Sheet {
	t.Helper()
	x, e := s.p.Get(n)
	if e != api.OK {
		t.Fatalf("page %d: %d", n, e)
	}
	return x
}

// last is the last record that can be taken back of a transaction.
func (s store) last(t *testing.T, n int) api.Rec {
	t.Helper()
	r, at, e := s.Next(n)
	if e != api.OK || at == 0 {
		t.Fatal("Next:", at, e)
	}
	return r
}

// allocate takes the least free page.
func (s store) allocate(t *testing.T, n int) api.Page {
	t.Helper()
	p, e := heap.Allocate(s.Manager, n)
	if e != api.OK {
		t.Fatal("Allocate:", e)
	}
	return p
}

// root begins a tree, in a transaction of its own.
func (s store) root(t *testing.T, l ...api.Entry) api.Page {
	t.Helper()
	n := s.begin(t)
	root, e := smo.Create(s.Manager, n)
	if e != api.OK {
		t.Fatal("Create:", e)
	}
	s.insert(t, n, root, l...)
	s.commit(t, n)
	return root
}

// first begins a table, in a transaction of its own.
func (s store) first(t *testing.T, rows ...string) api.Page {
	t.Helper()
	n := s.begin(t)
	first, e := heap.Create(s.Manager, n)
	if e != api.OK {
		t.Fatal("Create:", e)
	}
	for i, row := range rows {
		s.put(t, n, api.RID{Page: first, Slot: i}, row)
	}
	s.commit(t, n)
	return first
}

// insert puts entries in, without cleaning anything.
func (s store) insert(t *testing.T, n int, root api.Page, l ...api.Entry) {
	t.Helper()
	for _, en := range l {
		if e := smo.Insert(s.Manager, n, root, en, nil); e != api.OK {
			t.Fatalf("Insert(%v): %d", en, e)
		}
	}
}

// delete takes entries out.
func (s store) delete(t *testing.T, n int, root api.Page, l ...api.Entry) {
	t.Helper()
	for _, en := range l {
		if e := smo.Delete(s.Manager, n, root, en); e != api.OK {
			t.Fatalf("Delete(%v): %d", en, e)
		}
	}
}

// put puts a row at a place.
func (s store) put(t *testing.T, n int, r api.RID, row string) {
	t.Helper()
	wantErr(t, "Put", heap.Put(s.Manager, n, r, row), api.OK)
}

// entry is a key and a place.
func entry(key string, n api.Page, slot int) api.Entry {
	return api.Entry{Key: key, RID: api.RID{Page: n, Slot: slot}}
}

// at is the entry of a key at the place zero.
func at(key string) api.Entry { return entry(key, 0, 0) }

// wide is an entry with the longest key, of which six fill a leaf; its place has the slot i.
func wide(i int) api.Entry {
	return entry(fmt.Sprintf("%04d", i)+strings.Repeat("w", api.MaxKey-4), 9, i)
}

// wides is such entries from one number up to, without it, another one.
func wides(from, to int) []api.Entry {
	var l []api.Entry
	for i := from; i < to; i++ {
		l = append(l, wide(i))
	}
	return l
}

func live(e api.Entry) api.Item  { return api.Item{Entry: e, Live: true} }
func ghost(e api.Entry) api.Item { return api.Item{Entry: e} }

// itemBytes is an item by the words of chapter 12: 1 or 0, Page 4, Slot 2, the key.
func itemBytes(x api.Item) string {
	b := []byte{0}
	if x.Live {
		b[0] = 1
	}
	b = binary.LittleEndian.AppendUint32(b, uint32(x.Entry.RID.Page))
	b = binary.LittleEndian.AppendUint16(b, uint16(x.Entry.RID.Slot))
	return string(append(b, x.Entry.Key...))
}

// leafOf is a leaf without a next one, its bytes laid by hand.
func leafOf(n api.Page, l ...api.Item) api.Sheet {
	x := sheet(n, api.KindLeaf, "\x00\x00\x00\x00")
	for _, y := range l {
		x.Slots = append(x.Slots, itemBytes(y))
	}
	return x
}

// sheet is a page.
func sheet(n api.Page, kind int, head string, slots ...string) api.Sheet {
	return api.Sheet{Number: n, LSN: 1, Kind: kind, Head: head, Slots: slots}
}

// mapOf is a map whose slot begins with some bytes.
func mapOf(front string) api.Sheet {
	return sheet(api.MapPage, api.KindMap, "", front+strings.Repeat("\x00", mapBytes-len(front)))
}

// byPage is the record of a change that is taken back by the page.
func byPage(n api.Page, op api.Op) api.Rec {
	return api.Rec{Kind: api.RecUpdate, Tx: 1, Page: n, Op: op, Undo: api.UndoPage}
}

// wantPage asks for what stands in pages, but their LSNs.
func (s store) wantPage(t *testing.T, l ...api.Sheet) {
	t.Helper()
	for _, want := range l {
		if x := s.get(t, want.Number); !page.Same(x, want) {
			t.Errorf("page %d: %#v, not %#v", want.Number, x, want)
		}
	}
}

// wantTaken asks which pages are taken.
func (s store) wantTaken(t *testing.T, want ...api.Page) {
	t.Helper()
	if l := space.All(s.get(t, api.MapPage)); !slices.Equal(l, want) {
		t.Errorf("taken: %v, not %v", l, want)
	}
}

// wantTree asks for a tree that is well formed, and that has just these items; its pages.
func (s store) wantTree(t *testing.T, root api.Page, want ...api.Item) []api.Page {
	t.Helper()
	pages, e := tree.Check(s.p, root)
	wantErr(t, "Check", e, api.OK)
	for _, n := range pages {
		if !space.Taken(s.get(t, api.MapPage), n) {
			t.Errorf("page %d is in the tree, and free", n)
		}
	}
	if l, e := tree.All(s.p, root); e != api.OK || !slices.Equal(l, want) {
		t.Errorf("All: %v, %d, not %v", l, e, want)
	}
	return pages
}

// itemsOf is the items of a tree.
func (s store) itemsOf(t *testing.T, root api.Page) []api.Item {
	t.Helper()
	l, e := tree.All(s.p, root)
	wantErr(t, "All", e, api.OK)
	return l
}

// wantRows asks for all rows of a table.
func (s store) wantRows(t *testing.T, first api.Page, want ...api.Stored) {
	t.Helper()
	if l, e := heap.Scan(s.Manager, first); e != api.OK || !slices.Equal(l, want) {
		t.Errorf("Scan: %v, %d, not %v", l, e, want)
	}
}

// levels is how many pages stand on the way down a tree.
func (s store) levels(t *testing.T, root api.Page) int {
	t.Helper()
	way, e := tree.Path(s.p, root, at(""))
	wantErr(t, "Path", e, api.OK)
	return len(way)
}

// seen is all that a store tells: its pages, its log, its transactions.
type seen struct {
	pages           []api.Sheet
	all             []api.TxState
	end             api.LSN
	kept, log, most int
}

func (s store) look(t *testing.T) seen {
	t.Helper()
	x := seen{all: s.All(), end: s.l.End(), kept: s.l.Kept(), log: s.l.Len(), most: s.Coming()}
	for n := range api.Page(s.d.Room()) {
		x.pages = append(x.pages, s.get(t, n+1))
	}
	return x
}

// wantSame asks that nothing has changed.
func (s store) wantSame(t *testing.T, what string, was seen) {
	t.Helper()
	is := s.look(t)
	if is.end != was.end || is.kept != was.kept || is.log != was.log || is.most != was.most || !slices.Equal(is.all, was.all) {
		t.Errorf("%s: log and transactions: %d, %d, %d, %v; were %d, %d, %d, %v", what, is.end, is.kept, is.log, is.all, was.end, was.kept, was.log, was.all)
	}
	s.wantSamePages(t, what, was)
}

// wantSamePages asks that what stands in the pages has not changed.
func (s store) wantSamePages(t *testing.T, what string, was seen) {
	t.Helper()
	for i, x := range was.pages {
		if y := s.get(t, x.Number); !page.Same(x, y) {
			t.Errorf("%s: page %d: %#v was %#v", what, i+1, y, x)
		}
	}
}

// wantFails asks that a call answers an error and changes nothing.
func (s store) wantFails(t *testing.T, what string, want api.Errno, call func() api.Errno) {
	t.Helper()
	was := s.look(t)
	wantErr(t, what, call(), want)
	s.wantSame(t, what, was)
}

// placed is a record and its place.
type placed struct {
	at api.LSN
	r  api.Rec
}

// filler is what records begin with that only fill the log: no record of the program does.
const filler = "\xff"

// fill puts records into the log until nothing is free beside what is kept.
func (s store) fill(t *testing.T) {
	t.Helper()
	const least = api.FrameBytes + 1
	for left := s.l.Room() - s.l.Kept(); left >= least; left = s.l.Room() - s.l.Kept() {
		n := min(left, api.FrameBytes+api.MaxRecord)
		if rest := left - n; rest > 0 && rest < least {
			n -= least
		}
		_, e := s.l.Append(strings.Repeat(filler, n-api.FrameBytes))
		wantErr(t, "Append", e, api.OK)
	}
}

// records is all records of a log from a place on, but those that only fill it.
func records(t *testing.T, l *wal.Log, from api.LSN) []placed {
	t.Helper()
	var all []placed
	for at := from; at != l.End(); {
		s, next, here := l.Get(at)
		if !here {
			t.Fatalf("no record at %d", at)
		}
		if !strings.HasPrefix(s, filler) {
			r, e := rec.Decode(s)
			wantErr(t, "rec.Decode", e, api.OK)
			all = append(all, placed{at, r})
		}
		at = next
	}
	return all
}

// of is the records of one transaction.
func of(l []placed, n int) []placed {
	return slices.DeleteFunc(slices.Clone(l), func(x placed) bool { return x.r.Tx != n })
}

// kind is the records of one kind.
func kind(l []placed, kind int) []placed {
	return slices.DeleteFunc(slices.Clone(l), func(x placed) bool { return x.r.Kind != kind })
}

// before is the order of entries: by keys, then pages, then slots.
func before(a, b api.Entry) int {
	return cmp.Or(strings.Compare(a.Key, b.Key), cmp.Compare(a.RID.Page, b.RID.Page), cmp.Compare(a.RID.Slot, b.RID.Slot))
}
