package heap_test

import (
	"slices"
	"strings"
	"testing"

	"girder/api"
	"girder/disk"
	"girder/heap"
	"girder/page"
	"girder/pool"
	"girder/rec"
	"girder/space"
	"girder/txn"
	"girder/wal"
)

const (
	room   = 16 // pages of the disks of these tests, where nothing else is said
	frames = 32 // of their pools

	slotBytes = 62
	pageSlots = 7
)

func wantErr(t *testing.T, what string, e, want api.Errno) {
	t.Helper()
	if e != want {
		t.Errorf("%s: %d, not %d", what, e, want)
	}
}

// store is a manager, and all that it stands on.
type store struct {
	*txn.Manager
	d *disk.Disk
	l *wal.Log
	p *pool.Pool
}

// over is a manager over a disk as it is.
func over(t *testing.T, d *disk.Disk, frames int) store {
	t.Helper()
	l, _, e := wal.Open(d)
	wantErr(t, "wal.Open", e, api.OK)
	p, e := pool.New(d, l, frames)
	wantErr(t, "pool.New", e, api.OK)
	return store{Manager: txn.New(p), d: d, l: l, p: p}
}

// bare is a manager over a new disk, with nothing on it.
func bare(t *testing.T, room, frames int) store {
	t.Helper()
	d, e := disk.New(room)
	wantErr(t, "disk.New", e, api.OK)
	return over(t, d, frames)
}

// laid is a manager over a new disk on which a map stands, in which the first pages are taken.
func laid(t *testing.T, room, frames, taken int) store {
	t.Helper()
	s := bare(t, room, frames)
	ops, e := space.Fresh(taken)
	wantErr(t, "Fresh", e, api.OK)
	n := s.begin(t)
	for _, op := range ops {
		s.log(t, n, api.Change{Page: api.MapPage, Op: op})
	}
	s.commit(t, n)
	return s
}

// begun is a manager as most tests need it: of the map's pages two are taken.
func begun(t *testing.T) store {
	t.Helper()
	return laid(t, room, frames, 2)
}

func (s store) begin(t *testing.T) int {
	t.Helper()
	n, e := s.Begin()
	if e != api.OK {
		t.Fatal("Begin:", e)
	}
	return n
}

func (s store) commit(t *testing.T, n int) {
	t.Helper()
	wantErr(t, "Commit", s.Commit(n), api.OK)
}

func (s store) abort(t *testing.T, n int) {
	t.Helper()
	wantErr(t, "Abort", s.Abort(n, s.undo), api.OK)
}

// log logs a change.
func (s store) log(t *testing.T, n int, c api.Change) api.LSN {
	t.Helper()
	at, e := s.Log(n, c)
	if e != api.OK {
		t.Fatalf("Log(%d, %v): %d", n, c, e)
	}
	return at
}

// save is a savepoint.
func (s store) save(t *testing.T, n int) api.LSN {
	t.Helper()
	at, e := s.Save(n)
	wantErr(t, "Save", e, api.OK)
	return at
}

// undo takes a record back, as the document's chapter of undo says: the map by its bit, all else by the inverse.
func (s store) undo(n int, r api.Rec) api.Errno {
	op := page.Inverse(r.Op)
	if r.Page == api.MapPage && r.Op.Kind == api.OpPut {
		x, e := s.p.Get(api.MapPage)
		if e != api.OK {
			return e
		}
		is := x.Slots[0][r.Op.At]
		op.Old, op.S = string([]byte{is}), string([]byte{is ^ r.Op.S[0] ^ r.Op.Old[0]})
	}
	_, e := s.Compensate(n, r.Page, op, r.Prev)
	return e
}

// get is a page.
func (s store) get(t *testing.T, n api.Page) api.Sheet {
	t.Helper()
	x, e := s.p.Get(n)
	if e != api.OK {
		t.Fatalf("page %d: %d", n, e)
	}
	return x
}

// create begins a table.
func (s store) create(t *testing.T, n int) api.Page {
	t.Helper()
	first, e := heap.Create(s.Manager, n)
	if e != api.OK {
		t.Fatal("Create:", e)
	}
	return first
}

// extend puts pages behind a table's last one, and tells all.
func (s store) extend(t *testing.T, n int, first api.Page, more int) []api.Page {
	t.Helper()
	for range more {
		if e := heap.Extend(s.Manager, n, first); e != api.OK {
			t.Fatal("Extend:", e)
		}
	}
	pages, e := heap.Pages(s.Manager, first)
	wantErr(t, "Pages", e, api.OK)
	return pages
}

// put puts rows at the first places that are free.
func (s store) put(t *testing.T, n int, first api.Page, rows ...string) []api.RID {
	t.Helper()
	var l []api.RID
	for _, row := range rows {
		r, is, e := heap.Place(s.Manager, first, anywhere)
		if !is || e != api.OK {
			t.Fatal("Place:", r, is, e)
		}
		if e := heap.Put(s.Manager, n, r, row); e != api.OK {
			t.Fatalf("Put(%v): %d", r, e)
		}
		l = append(l, r)
	}
	return l
}

// anywhere is a free that answers true.
func anywhere(api.RID) bool { return true }

// slot is a slot's bytes, laid by hand.
func slot(live byte, row string) string {
	return string([]byte{live, byte(len(row))}) + row + strings.Repeat("\x00", slotBytes-2-len(row))
}

// heapSheet is a page of rows, laid by hand.
func heapSheet(n, next api.Page, slots ...string) api.Sheet {
	return api.Sheet{Number: n, Kind: api.KindHeap, Head: string([]byte{byte(next), byte(next >> 8), 0, 0}), Slots: slots}
}

// wantPage asks for what stands in a page, but its LSN.
func (s store) wantPage(t *testing.T, want api.Sheet) {
	t.Helper()
	if x := s.get(t, want.Number); !page.Same(x, want) {
		t.Errorf("page %d: %#v, not %#v", want.Number, x, want)
	}
}

// wantTaken asks which pages are taken.
func (s store) wantTaken(t *testing.T, want ...api.Page) {
	t.Helper()
	if l := space.All(s.get(t, api.MapPage)); !slices.Equal(l, want) {
		t.Errorf("taken: %v, not %v", l, want)
	}
}

// wantPages asks for a table's pages.
func (s store) wantPages(t *testing.T, first api.Page, want ...api.Page) {
	t.Helper()
	if l, e := heap.Pages(s.Manager, first); e != api.OK || !slices.Equal(l, want) {
		t.Errorf("Pages(%d): %v, %d, not %v", first, l, e, want)
	}
}

// wantRow asks for a row, as Get tells it.
func (s store) wantRow(t *testing.T, r api.RID, want string) {
	t.Helper()
	if row, e := heap.Get(s.Manager, r); row != want || e != api.OK {
		t.Errorf("Get(%v): %q, %d, not %q", r, row, e, want)
	}
}

// wantNoRow asks that Get tells an error.
func (s store) wantNoRow(t *testing.T, r api.RID, want api.Errno) {
	t.Helper()
	if row, e := heap.Get(s.Manager, r); row != "" || e != want {
		t.Errorf("Get(%v): %q, %d, not %d", r, row, e, want)
	}
}

// wantScan asks for all rows of a table.
func (s store) wantScan(t *testing.T, first api.Page, want ...api.Stored) {
	t.Helper()
	if l, e := heap.Scan(s.Manager, first); e != api.OK || !slices.Equal(l, want) {
		t.Errorf("Scan(%d): %v, %d, not %v", first, l, e, want)
	}
}

// wantPlace asks for the first place that free does not refuse.
func (s store) wantPlace(t *testing.T, first api.Page, free func(api.RID) bool, want api.RID) {
	t.Helper()
	if r, is, e := heap.Place(s.Manager, first, free); r != want || !is || e != api.OK {
		t.Errorf("Place(%d): %v, %t, %d, not %v", first, r, is, e, want)
	}
}

// wantNoPlace asks that there is no place, or an error.
func (s store) wantNoPlace(t *testing.T, first api.Page, free func(api.RID) bool, want api.Errno) {
	t.Helper()
	if r, is, e := heap.Place(s.Manager, first, free); r != (api.RID{}) || is || e != want {
		t.Errorf("Place(%d): %v, %t, %d, not %d", first, r, is, e, want)
	}
}

// seen is all that a store tells: its pages, its log, its transactions.
type seen struct {
	pages           []api.Sheet
	all             []api.TxState
	end             api.LSN
	kept, log, most int
}

func (s store) look(t *testing.T) seen {
	t.Helper()
	x := seen{all: s.All(), end: s.l.End(), kept: s.l.Kept(), log: s.l.Len(), most: s.Coming()}
	for n := range api.Page(s.d.Room()) {
		x.pages = append(x.pages, s.get(t, n+1))
	}
	return x
}

// wantSame asks that nothing has changed.
func (s store) wantSame(t *testing.T, what string, was seen) {
	t.Helper()
	is := s.look(t)
	if is.end != was.end || is.kept != was.kept || is.log != was.log || is.most != was.most || !slices.Equal(is.all, was.all) {
		t.Errorf("%s: log and transactions: %d, %d, %d, %v; were %d, %d, %d, %v", what, is.end, is.kept, is.log, is.all, was.end, was.kept, was.log, was.all)
	}
	s.wantSamePages(t, what, was)
}

// wantSamePages asks that what stands in the pages has not changed.
func (s store) wantSamePages(t *testing.T, what string, was seen) {
	t.Helper()
	for i, x := range was.pages {
		if y := s.get(t, x.Number); !page.Same(x, y) {
			t.Errorf("%s: page %d: %#v was %#v", what, i+1, y, x)
		}
	}
}

// wantFails asks that a call answers an error and changes nothing.
func (s store) wantFails(t *testing.T, what string, want api.Errno, call func() api.Errno) {
	t.Helper()
	was := s.look(t)
	wantErr(t, what, call(), want)
	s.wantSame(t, what, was)
}

// placed is a record and its place.
type placed struct {
	at api.LSN
	r  api.Rec
}

// records is all records of a log, but those that only fill it.
func records(t *testing.T, l *wal.Log) []placed {
	t.Helper()
	var all []placed
	for at := api.LSN(1); at != l.End(); {
		s, next, here := l.Get(at)
		if !here {
			t.Fatalf("no record at %d", at)
		}
		if !strings.HasPrefix(s, filler) {
			r, e := rec.Decode(s)
			wantErr(t, "rec.Decode", e, api.OK)
			all = append(all, placed{at, r})
		}
		at = next
	}
	return all
}

// wantLogged asks that the records from a place on are these changes of a transaction, in this order, and no other ones.
func (s store) wantLogged(t *testing.T, from api.LSN, n int, want ...api.Change) {
	t.Helper()
	var got []api.Change
	for _, x := range records(t, s.l) {
		if x.at < from {
			continue
		}
		if x.r.Kind != api.RecUpdate || x.r.Tx != n {
			t.Errorf("the record at %d: %v", x.at, x.r)
		}
		got = append(got, api.Change{Page: x.r.Page, Op: x.r.Op, Undo: x.r.Undo, Index: x.r.Index, Entry: x.r.Entry, Live: x.r.Live})
	}
	if !slices.Equal(got, want) {
		t.Errorf("logged: %v, not %v", got, want)
	}
}

// undoable is a change that is undone by the page.
func undoable(n api.Page, op api.Op) api.Change {
	return api.Change{Page: n, Op: op, Undo: api.UndoPage}
}

// turns is the change of the map's byte at.
func turns(at int, old, is byte) api.Change {
	return undoable(api.MapPage, api.Op{Kind: api.OpPut, At: at, S: string([]byte{is}), Old: string([]byte{old})})
}

// formatted is the change that makes a page one of rows.
func formatted(n api.Page) api.Change {
	return undoable(n, api.Op{Kind: api.OpFormat, At: api.KindHeap, S: "\x00\x00\x00\x00"})
}

// sets is the change of a slot.
func sets(r api.RID, old, is string) api.Change {
	return undoable(r.Page, api.Op{Kind: api.OpSet, At: r.Slot, S: is, Old: old})
}

// lays is the change that puts a slot in that is not there yet.
func lays(r api.RID) api.Change {
	return api.Change{Page: r.Page, Op: api.Op{Kind: api.OpInsert, At: r.Slot, S: strings.Repeat("\x00", slotBytes)}}
}

// The chapter's example.
func TestExample(t *testing.T) {
	s := begun(t)
	n := s.begin(t)
	first, e := heap.Create(s.Manager, n)
	if first != 3 || e != api.OK {
		t.Fatal("Create:", first, e)
	}
	r := api.RID{Page: 3, Slot: 0}
	s.wantPlace(t, 3, anywhere, r)
	wantErr(t, "Put", heap.Put(s.Manager, n, r, "row"), api.OK)
	s.wantRow(t, r, "row")
	s.wantPlace(t, 3, anywhere, api.RID{Page: 3, Slot: 1})
	wantErr(t, "Delete", heap.Delete(s.Manager, n, r), api.OK)
	s.wantPlace(t, 3, anywhere, r)
	s.commit(t, n)
}

// 10.1: Format makes any page one of rows, without rows and without a next one.
func TestFormat(t *testing.T) {
	want := api.Op{Kind: api.OpFormat, At: api.KindHeap, S: "\x00\x00\x00\x00"}
	if heap.Format() != want {
		t.Errorf("Format: %#v, not %#v", heap.Format(), want)
	}
	full := api.Sheet{Number: 9, Kind: api.KindLeaf, Head: "head", Slots: []string{"a", "b"}}
	for _, x := range []api.Sheet{page.Blank(9), full, heapSheet(9, 5, slot(1, "row"))} {
		x, e := page.Apply(x, heap.Format(), 7)
		if e != api.OK || !page.Same(x, heapSheet(9, 0)) {
			t.Errorf("%#v, %d", x, e)
		}
	}
	s := begun(t)
	n := s.begin(t)
	s.log(t, n, api.Change{Page: 9, Op: heap.Format()})
	s.wantPages(t, 9, 9)
	s.wantScan(t, 9)
	s.wantPlace(t, 9, anywhere, api.RID{Page: 9})
}

// 10.1: Allocate takes the least free page, Release makes it free, each by one bit of the map that is undone by the page.
func TestAllocate(t *testing.T) {
	s := begun(t)
	n := s.begin(t)
	allocate := func(want api.Page, change api.Change) {
		t.Helper()
		from := s.l.End()
		if got, e := heap.Allocate(s.Manager, n); got != want || e != api.OK {
			t.Errorf("Allocate: %d, %d, not %d", got, e, want)
		}
		s.wantLogged(t, from, n, change)
	}
	release := func(p api.Page, change api.Change) {
		t.Helper()
		from := s.l.End()
		wantErr(t, "Release", heap.Release(s.Manager, n, p), api.OK)
		s.wantLogged(t, from, n, change)
	}
	allocate(3, turns(0, 0x03, 0x07))
	allocate(4, turns(0, 0x07, 0x0f))
	allocate(5, turns(0, 0x0f, 0x1f))
	release(4, turns(0, 0x1f, 0x17))
	s.wantTaken(t, 1, 2, 3, 5)
	release(3, turns(0, 0x17, 0x13))
	s.wantTaken(t, 1, 2, 5)
	allocate(3, turns(0, 0x13, 0x17))
	allocate(4, turns(0, 0x17, 0x1f))
	allocate(6, turns(0, 0x1f, 0x3f))
	allocate(7, turns(0, 0x3f, 0x7f))
	allocate(8, turns(0, 0x7f, 0xff))
	allocate(9, turns(1, 0x00, 0x01))
	release(9, turns(1, 0x01, 0x00))
	s.wantTaken(t, 1, 2, 3, 4, 5, 6, 7, 8)
	// Also those that everything stands on: who may release which page, the layers above know.
	release(2, turns(0, 0xff, 0xfd))
	allocate(2, turns(0, 0xfd, 0xff))
	for p := api.Page(2); p <= room; p++ {
		s.wantPage(t, page.Blank(p))
	}
}

// 10.1: the page that is allocated stays as it was, whatever stood there.
func TestAllocateTouchesNoOther(t *testing.T) {
	s := begun(t)
	n := s.begin(t)
	s.log(t, n, api.Change{Page: 3, Op: api.Op{Kind: api.OpFormat, At: api.KindLeaf, S: "head"}})
	was := s.get(t, 3)
	if p, e := heap.Allocate(s.Manager, n); p != 3 || e != api.OK {
		t.Error("Allocate:", p, e)
	}
	if x := s.get(t, 3); !page.Same(x, was) || x.LSN != was.LSN {
		t.Error("page 3 was changed")
	}
	wantErr(t, "Release", heap.Release(s.Manager, n, 3), api.OK)
	if x := s.get(t, 3); !page.Same(x, was) || x.LSN != was.LSN {
		t.Error("page 3 was changed")
	}
}

// 10.1: pages that can't be made free.
func TestReleaseNone(t *testing.T) {
	s := begun(t)
	n := s.begin(t)
	for _, p := range []api.Page{0, 3, room, room + 1, api.MaxPages, api.MaxPages + 1, 1<<32 - 1} {
		s.wantFails(t, "Release", api.ErrNone, func() api.Errno { return heap.Release(s.Manager, n, p) })
	}
}

// 10.1: Create is a page that is allocated and formatted, both undone by the page.
func TestCreate(t *testing.T) {
	s := begun(t)
	n := s.begin(t)
	s.log(t, n, api.Change{Page: 3, Op: api.Op{Kind: api.OpFormat, At: api.KindLeaf, S: "head"}})
	s.log(t, n, api.Change{Page: 3, Op: api.Op{Kind: api.OpInsert, S: "something"}})
	from := s.l.End()
	if first := s.create(t, n); first != 3 {
		t.Error("Create:", first)
	}
	s.wantLogged(t, from, n, turns(0, 0x03, 0x07), formatted(3))
	s.wantPage(t, heapSheet(3, 0))
	from = s.l.End()
	if first := s.create(t, n); first != 4 {
		t.Error("Create:", first)
	}
	s.wantLogged(t, from, n, turns(0, 0x07, 0x0f), formatted(4))
	s.wantTaken(t, 1, 2, 3, 4)
	s.wantPages(t, 3, 3)
	s.wantPages(t, 4, 4)
	s.abort(t, n)
	s.wantTaken(t, 1, 2)
	s.wantPage(t, page.Blank(3))
	s.wantPage(t, page.Blank(4))
}

// 10.1, 10.2: a disk that is full: nothing changes, rows stay; when a page is free again it is taken.
func TestFull(t *testing.T) {
	s := laid(t, 8, frames, 2)
	n := s.begin(t)
	first := s.create(t, n)
	rows := s.put(t, n, first, "a", "b")
	for p := api.Page(4); p <= 8; p++ {
		if got, e := heap.Allocate(s.Manager, n); got != p || e != api.OK {
			t.Fatal("Allocate:", got, e)
		}
	}
	s.wantFull(t, n, first)
	wantErr(t, "Release", heap.Release(s.Manager, n, 6), api.OK)
	s.wantPages(t, first, 3)
	if pages := s.extend(t, n, first, 1); !slices.Equal(pages, []api.Page{3, 6}) {
		t.Error("Extend:", pages)
	}
	s.wantFull(t, n, first)
	s.commit(t, n)
	n = s.begin(t)
	s.wantFull(t, n, first)
	s.wantScan(t, first, api.Stored{RID: rows[0], Row: "a"}, api.Stored{RID: rows[1], Row: "b"})
	s.wantPages(t, first, 3, 6)
}

// wantFull asks that there is no page any more.
func (s store) wantFull(t *testing.T, n int, first api.Page) {
	t.Helper()
	for what, call := range map[string]func() (api.Page, api.Errno){
		"Allocate": func() (api.Page, api.Errno) { return heap.Allocate(s.Manager, n) },
		"Create":   func() (api.Page, api.Errno) { return heap.Create(s.Manager, n) },
		"Extend":   func() (api.Page, api.Errno) { return 0, heap.Extend(s.Manager, n, first) },
	} {
		s.wantFails(t, what, api.ErrSpace, func() api.Errno {
			p, e := call()
			if p != 0 {
				t.Errorf("%s: %d", what, p)
			}
			return e
		})
	}
}

// 10.1: the greatest disk, up to its last page.
func TestGreatestDisk(t *testing.T) {
	s := laid(t, api.MaxPages, frames, api.MaxPages-2)
	n := s.begin(t)
	if first := s.create(t, n); first != api.MaxPages-1 {
		t.Error("Create:", first)
	}
	s.extend(t, n, api.MaxPages-1, 1)
	s.wantPages(t, api.MaxPages-1, api.MaxPages-1, api.MaxPages)
	s.put(t, n, api.MaxPages-1, "1", "2", "3", "4", "5", "6", "7", "8")
	s.wantRow(t, api.RID{Page: api.MaxPages}, "8")
	if p, e := heap.Allocate(s.Manager, n); p != 0 || e != api.ErrSpace {
		t.Error("Allocate:", p, e)
	}
	wantErr(t, "Extend", heap.Extend(s.Manager, n, api.MaxPages-1), api.ErrSpace)
}
