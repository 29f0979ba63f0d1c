package heap_test

import (
	"slices"
	"testing"

	"girder/api"
	"girder/heap"
	"girder/page"
)

// 10.2: Extend is a nested top action: a page is allocated and formatted, the last one is linked to it, and undoing goes on ahead of that.
func TestExtend(t *testing.T) {
	s := begun(t)
	n := s.begin(t)
	first := s.create(t, n)
	s.put(t, n, first, "a")
	to := s.save(t, n)
	from := s.l.End()
	wantErr(t, "Extend", heap.Extend(s.Manager, n, first), api.OK)
	link := undoable(3, api.Op{Kind: api.OpHead, S: "\x04\x00\x00\x00", Old: "\x00\x00\x00\x00"})
	s.wantNested(t, from, n, to, turns(0, 0x07, 0x0f), formatted(4), link)
	s.wantPage(t, heapSheet(3, 4, slot(1, "a")))
	s.wantPage(t, heapSheet(4, 0))
	s.wantPages(t, first, 3, 4)
	s.wantTaken(t, 1, 2, 3, 4)
	if at := s.save(t, n); at != to {
		t.Errorf("Save behind Extend: %d, not %d", at, to)
	}
	// The next one goes behind the last page, not behind the first.
	from = s.l.End()
	wantErr(t, "Extend", heap.Extend(s.Manager, n, first), api.OK)
	link = undoable(4, api.Op{Kind: api.OpHead, S: "\x05\x00\x00\x00", Old: "\x00\x00\x00\x00"})
	s.wantNested(t, from, n, to, turns(0, 0x0f, 0x1f), formatted(5), link)
	s.wantPages(t, first, 3, 4, 5)
	// From a page in the midst on it is the same table's end.
	wantErr(t, "Extend", heap.Extend(s.Manager, n, 4), api.OK)
	s.wantPages(t, first, 3, 4, 5, 6)
}

// wantNested asks that the records from a place on are these changes and the end of a nested top action that leads to to.
func (s store) wantNested(t *testing.T, from api.LSN, n int, to api.LSN, want ...api.Change) {
	t.Helper()
	all := records(t, s.l)
	last := all[len(all)-1]
	if top := last.r; top.Kind != api.RecTop || top.Tx != n || top.Next != to {
		t.Errorf("the last record: %v", top)
	}
	var got []api.Change
	for _, x := range all[:len(all)-1] {
		if x.at >= from {
			got = append(got, api.Change{Page: x.r.Page, Op: x.r.Op, Undo: x.r.Undo})
			if x.r.Kind != api.RecUpdate || x.r.Tx != n {
				t.Errorf("the record at %d: %v", x.at, x.r)
			}
		}
	}
	if !slices.Equal(got, want) {
		t.Errorf("logged: %v, not %v", got, want)
	}
}

// 10.2: pages stand in the order of their links, from any page on, whatever their numbers; rows and places likewise.
func TestOrderOfPages(t *testing.T) {
	s := laid(t, room, 4, 6)
	n := s.begin(t)
	first := s.create(t, n)
	s.extend(t, n, first, 1)
	for _, p := range []api.Page{5, 3, 4} {
		wantErr(t, "Release", heap.Release(s.Manager, n, p), api.OK)
		s.extend(t, n, first, 1)
	}
	want := []api.Page{7, 8, 5, 3, 4}
	for i, p := range want {
		s.wantPages(t, p, want[i:]...)
	}
	var all []api.Stored
	for i := range len(want) * pageSlots {
		r := api.RID{Page: want[i/pageSlots], Slot: i % pageSlots}
		s.wantPlace(t, first, anywhere, r)
		all = append(all, api.Stored{RID: r, Row: long(i)})
		wantErr(t, "Put", heap.Put(s.Manager, n, r, long(i)), api.OK)
		s.wantScan(t, first, all...)
	}
	s.wantNoPlace(t, first, anywhere, api.OK)
	for i, p := range want {
		s.wantScan(t, p, all[i*pageSlots:]...)
	}
	// Two went: the one of the page that is linked first is the first place.
	for _, r := range []api.RID{{Page: 3, Slot: 1}, {Page: 5, Slot: 6}, {Page: 5, Slot: 4}} {
		wantErr(t, "Delete", heap.Delete(s.Manager, n, r), api.OK)
		s.wantPlace(t, first, anywhere, r)
	}
	s.wantPlace(t, 3, anywhere, api.RID{Page: 3, Slot: 1})
	s.wantNoPlace(t, 4, anywhere, api.OK)
}

// asked is a free that notes what it was asked for, and answers true for what is listed.
func asked(l *[]api.RID, free ...api.RID) func(api.RID) bool {
	return func(r api.RID) bool {
		*l = append(*l, r)
		return slices.Contains(free, r)
	}
}

// 10.2: what Place asks free for: places without a live row, in their order, of a page's slots that are not there yet the first alone, and none behind the one that is free.
func TestPlaceAsks(t *testing.T) {
	s := begun(t)
	n := s.begin(t)
	first := s.create(t, n)
	s.extend(t, n, first, 3)
	// Page 3: full, of which 2 and 5 went. Page 4: two slots, of which 0 went. Page 5: none. Page 6: full, all live.
	for i := range pageSlots {
		wantErr(t, "Put", heap.Put(s.Manager, n, api.RID{Page: 3, Slot: i}, "row"), api.OK)
		wantErr(t, "Put", heap.Put(s.Manager, n, api.RID{Page: 6, Slot: i}, "row"), api.OK)
	}
	for i := range 2 {
		wantErr(t, "Put", heap.Put(s.Manager, n, api.RID{Page: 4, Slot: i}, "row"), api.OK)
	}
	for _, r := range []api.RID{{Page: 3, Slot: 2}, {Page: 3, Slot: 5}, {Page: 4, Slot: 0}} {
		wantErr(t, "Delete", heap.Delete(s.Manager, n, r), api.OK)
	}
	want := []api.RID{{Page: 3, Slot: 2}, {Page: 3, Slot: 5}, {Page: 4, Slot: 0}, {Page: 4, Slot: 2}, {Page: 5, Slot: 0}}
	was := s.look(t)
	for i, r := range want {
		var l []api.RID
		s.wantPlace(t, first, asked(&l, want[i:]...), r)
		if !slices.Equal(l, want[:i+1]) {
			t.Errorf("asked for %v, not %v", l, want[:i+1])
		}
		l = nil
		s.wantPlace(t, first, asked(&l, r), r)
		if !slices.Equal(l, want[:i+1]) {
			t.Errorf("asked for %v, not %v", l, want[:i+1])
		}
	}
	var l []api.RID
	s.wantNoPlace(t, first, asked(&l), api.OK)
	if !slices.Equal(l, want) {
		t.Errorf("asked for %v, not %v", l, want)
	}
	l = nil
	s.wantNoPlace(t, 6, asked(&l, want...), api.OK)
	if len(l) != 0 {
		t.Errorf("asked for %v of a page without room", l)
	}
	s.wantSame(t, "Place", was)
}

// 10.2: a free that may not be: nil, or one that panics.
func TestPlaceWithoutFree(t *testing.T) {
	s := begun(t)
	n := s.begin(t)
	first := s.create(t, n)
	panics := func(api.RID) bool { panic("free") }
	s.wantNoPlace(t, first, nil, api.ErrArg)
	s.wantNoPlace(t, first, panics, api.ErrArg)
	s.put(t, n, first, "1", "2", "3", "4", "5", "6", "7")
	s.wantNoPlace(t, first, nil, api.ErrArg)
	// Nobody asks it here.
	s.wantNoPlace(t, first, panics, api.OK)
	s.wantNoPlace(t, 9, nil, api.ErrHeap)
}

// 10.2: a free that changes the table while it is asked.
func TestPlaceWhileItChanges(t *testing.T) {
	s := begun(t)
	n := s.begin(t)
	first := s.create(t, n)
	calls := 0
	r, is, e := heap.Place(s.Manager, first, func(r api.RID) bool {
		calls++
		wantErr(t, "Put", heap.Put(s.Manager, n, r, "row"), api.OK)
		wantErr(t, "Extend", heap.Extend(s.Manager, n, first), api.OK)
		return false
	})
	if calls != 1 || r != (api.RID{}) || is || e != api.OK {
		t.Error("Place:", calls, r, is, e)
	}
	s.wantPages(t, first, 3, 4)
}

// 10.2: one table's pages, rows and places are not another one's.
func TestTwoTables(t *testing.T) {
	s := begun(t)
	n := s.begin(t)
	a, b := s.create(t, n), s.create(t, n)
	s.extend(t, n, a, 1)
	s.extend(t, n, b, 1)
	s.extend(t, n, a, 1)
	s.wantPages(t, a, 3, 5, 7)
	s.wantPages(t, b, 4, 6)
	s.put(t, n, a, "a")
	s.put(t, n, b, "b", "c")
	s.wantScan(t, a, api.Stored{RID: api.RID{Page: 3}, Row: "a"})
	s.wantScan(t, b, api.Stored{RID: api.RID{Page: 4}, Row: "b"}, api.Stored{RID: api.RID{Page: 4, Slot: 1}, Row: "c"})
}

// Looking changes nothing.
func TestLookingChangesNothing(t *testing.T) {
	s := begun(t)
	n := s.begin(t)
	first := s.create(t, n)
	s.extend(t, n, first, 1)
	r := s.put(t, n, first, "a", "b")[1]
	was := s.look(t)
	for range 2 {
		heap.Pages(s.Manager, first)
		heap.Place(s.Manager, first, anywhere)
		heap.Get(s.Manager, r)
		heap.Get(s.Manager, api.RID{Page: 9, Slot: 9})
		heap.Scan(s.Manager, first)
		heap.Format()
	}
	s.wantSame(t, "looking", was)
}

// round is a store whose table of the pages 3, 4, 5 leads back to a page.
func round(t *testing.T, back api.Page) (store, int) {
	t.Helper()
	s := begun(t)
	n := s.begin(t)
	first := s.create(t, n)
	s.extend(t, n, first, 2)
	s.log(t, n, api.Change{Page: 5, Op: api.Op{Kind: api.OpHead, S: string([]byte{byte(back), 0, 0, 0}), Old: "\x00\x00\x00\x00"}})
	return s, n
}

// 10.2, R1: a table that leads back to a page of its own: each call ends, and tells that it is none of rows.
func TestRound(t *testing.T) {
	for _, back := range []api.Page{3, 4, 5} {
		s, n := round(t, back)
		s.wantBroken(t, n, 3, api.ErrHeap)
		// Of one page alone nothing is wrong.
		wantErr(t, "Put", heap.Put(s.Manager, n, api.RID{Page: 5}, "row"), api.OK)
		s.wantRow(t, api.RID{Page: 5}, "row")
	}
}

// wantBroken asks that all calls that go over a table's pages tell an error, and change nothing.
func (s store) wantBroken(t *testing.T, n int, first api.Page, want api.Errno) {
	t.Helper()
	was := s.look(t)
	if l, e := heap.Pages(s.Manager, first); len(l) != 0 || e != want {
		t.Errorf("Pages(%d): %v, %d, not %d", first, l, e, want)
	}
	if l, e := heap.Scan(s.Manager, first); len(l) != 0 || e != want {
		t.Errorf("Scan(%d): %v, %d, not %d", first, l, e, want)
	}
	s.wantNoPlace(t, first, anywhere, want)
	s.wantNoPlace(t, first, func(api.RID) bool { return false }, want)
	wantErr(t, "Extend", heap.Extend(s.Manager, n, first), want)
	s.wantSame(t, "a table that is broken", was)
}

// notRows is pages that are none of rows.
func notRows() []api.Sheet {
	ok := slot(1, "row")
	with := func(n api.Page, at int, b byte) api.Sheet {
		x := []byte(ok)
		x[at] = b
		return heapSheet(n, 0, ok, string(x), ok)
	}
	kind := func(kind int) api.Sheet {
		x := heapSheet(9, 0, ok)
		x.Kind = kind
		return x
	}
	head := func(s string) api.Sheet {
		x := heapSheet(9, 0, ok)
		x.Head = s
		return x
	}
	return []api.Sheet{
		page.Blank(9), kind(0), kind(api.KindMap), kind(api.KindLeaf), kind(api.KindInner), kind(255), kind(api.KindHeap + 16),
		head(""), head("\x00\x00\x00"), head("\x00\x00\x00\x00\x00"), head("\x00\x00\x00\x00\x00\x00\x00\x00"),
		with(9, 0, 2), with(9, 0, 255), with(9, 1, 61), with(9, 1, 255), with(9, 1, 2), with(9, 5, 1), with(9, 61, 1),
		heapSheet(9, 0, ok, ok[:61]), heapSheet(9, 0, ok, ok+"\x00"), heapSheet(9, 0, ""), heapSheet(9, 0, "\x00"), heapSheet(9, 0, slot(0, "")+slot(0, "")),
		heapSheet(9, 0, "", "", "", "", "", "", "", ""),
	}
}

// 10.2, 10.3: pages that are none of rows, at every function.
func TestNoPageOfRows(t *testing.T) {
	for i, x := range notRows() {
		s := begun(t)
		n := s.begin(t)
		wantErr(t, "pool.Put", s.p.Put(x), api.OK)
		s.wantNoRows(t, n, 9, api.ErrHeap)
		s.wantNoRows(t, n, api.MapPage, api.ErrHeap)
		if t.Failed() {
			t.Fatalf("%d: %#v", i, x)
		}
	}
}

// wantNoRows asks that all calls that go to a page tell an error, and change nothing; those too that go there from a table's page ahead.
func (s store) wantNoRows(t *testing.T, n int, p api.Page, want api.Errno) {
	t.Helper()
	s.wantBroken(t, n, p, want)
	for _, at := range []int{-1, 0, 1, 2, 3, 7} {
		r := api.RID{Page: p, Slot: at}
		s.wantNoRow(t, r, want)
		s.wantFails(t, "Put", want, func() api.Errno { return heap.Put(s.Manager, n, r, "x") })
		s.wantFails(t, "Delete", want, func() api.Errno { return heap.Delete(s.Manager, n, r) })
		s.wantFails(t, "Update", want, func() api.Errno { return heap.Update(s.Manager, n, r, "x") })
	}
	wantErr(t, "pool.Put", s.p.Put(heapSheet(10, 11, slot(0, ""))), api.OK)
	far := heapSheet(11, 0, slot(1, "row"))
	far.Head = string([]byte{byte(p), byte(p >> 8), byte(p >> 16), byte(p >> 24)})
	wantErr(t, "pool.Put", s.p.Put(far), api.OK)
	if p != 0 {
		s.wantBroken(t, n, 10, want)
	}
	s.wantRow(t, api.RID{Page: 11}, "row")
}

// Errors of the layers below, which are told as they are: pages that may not be, or for which the disk has no room, or that can't be read.
func TestNoSuchPage(t *testing.T) {
	for p, want := range map[api.Page]api.Errno{
		0: api.ErrArg, api.MaxPages + 1: api.ErrArg, 1<<32 - 1: api.ErrArg,
		room + 1: api.ErrSpace, api.MaxPages: api.ErrSpace,
	} {
		s := begun(t)
		s.wantNoRows(t, s.begin(t), p, want)
	}
	s := begun(t)
	n := s.begin(t)
	s.spoil(t, 9)
	const corrupt = api.ErrCorrupt
	if l, e := heap.Pages(s.Manager, 9); len(l) != 0 || e != corrupt {
		t.Error("Pages:", l, e)
	}
	if l, e := heap.Scan(s.Manager, 9); len(l) != 0 || e != corrupt {
		t.Error("Scan:", l, e)
	}
	r := api.RID{Page: 9}
	s.wantNoPlace(t, 9, anywhere, corrupt)
	s.wantNoRow(t, r, corrupt)
	wantErr(t, "Extend", heap.Extend(s.Manager, n, 9), corrupt)
	wantErr(t, "Put", heap.Put(s.Manager, n, r, "x"), corrupt)
	wantErr(t, "Delete", heap.Delete(s.Manager, n, r), corrupt)
	wantErr(t, "Update", heap.Update(s.Manager, n, r, "x"), corrupt)
}

// spoil makes a page that can't be read.
func (s store) spoil(t *testing.T, p api.Page) {
	t.Helper()
	junk := long(api.PageBytes)
	wantErr(t, "disk.Write", s.d.Write(p, junk), api.OK)
	wantErr(t, "disk.Write", s.d.Write(p+api.MaxPages, junk), api.OK)
	wantErr(t, "disk.Sync", s.d.Sync(), api.OK)
}
