package heap_test

import (
	"testing"

	"girder/api"
	"girder/heap"
	"girder/page"
)

// 10.4, T7: to a savepoint and wholly: rows are as they were there, but pages and slots that were laid stay.
func TestBack(t *testing.T) {
	s, first, live, gone, next := filled(t)
	n := s.begin(t)
	wantErr(t, "Update", heap.Update(s.Manager, n, live, "changed"), api.OK)
	wantErr(t, "Put", heap.Put(s.Manager, n, next, "put"), api.OK)
	to := s.save(t, n)
	was := s.look(t)

	wantErr(t, "Delete", heap.Delete(s.Manager, n, live), api.OK)
	wantErr(t, "Put", heap.Put(s.Manager, n, live, "another one"), api.OK)
	wantErr(t, "Put", heap.Put(s.Manager, n, gone, "back again"), api.OK)
	wantErr(t, "Update", heap.Update(s.Manager, n, next, long(60)), api.OK)
	wantErr(t, "Delete", heap.Delete(s.Manager, n, next), api.OK)
	s.extend(t, n, first, 1)
	far := api.RID{Page: 5}
	wantErr(t, "Put", heap.Put(s.Manager, n, far, "far"), api.OK)
	if other := s.create(t, n); other != 6 {
		t.Error("Create:", other)
	}
	if p, e := heap.Allocate(s.Manager, n); p != 7 || e != api.OK {
		t.Error("Allocate:", p, e)
	}
	wantErr(t, "Release", heap.Release(s.Manager, n, 6), api.OK)

	wantErr(t, "Rollback", s.Rollback(n, to, s.undo), api.OK)
	s.wantPage(t, was.pages[2])
	s.wantPage(t, heapSheet(4, 5))
	s.wantPage(t, heapSheet(5, 0, slot(0, "")))
	s.wantPage(t, page.Blank(6))
	s.wantTaken(t, 1, 2, 3, 4, 5)
	s.wantPages(t, first, 3, 4, 5)
	s.wantScan(t, first, api.Stored{RID: live, Row: "changed"}, api.Stored{RID: next, Row: "put"})
	s.wantPlace(t, first, anywhere, gone)
	s.wantPlace(t, 5, anywhere, far)

	s.abort(t, n)
	s.wantPage(t, heapSheet(3, 4, slot(1, "live"), slot(0, "gone"), slot(0, "")))
	s.wantPage(t, heapSheet(5, 0, slot(0, "")))
	s.wantTaken(t, 1, 2, 3, 4, 5)
	s.wantPages(t, first, 3, 4, 5)
	s.wantScan(t, first, api.Stored{RID: live, Row: "live"})
}

// 10.3, 10.4: slots that one laid stay, and with them the places of others behind it.
func TestBackBesideOthers(t *testing.T) {
	s := begun(t)
	lay := s.begin(t)
	first := s.create(t, lay)
	s.commit(t, lay)
	a, b := s.begin(t), s.begin(t)
	var all []api.Stored
	for i := range pageSlots {
		r := api.RID{Page: first, Slot: i}
		if i%2 == 0 {
			wantErr(t, "Put", heap.Put(s.Manager, a, r, "a"), api.OK)
		} else {
			wantErr(t, "Put", heap.Put(s.Manager, b, r, "b"), api.OK)
			all = append(all, api.Stored{RID: r, Row: "b"})
		}
	}
	s.abort(t, a)
	s.wantScan(t, first, all...)
	s.wantPlace(t, first, anywhere, api.RID{Page: first, Slot: 0})
	s.commit(t, b)
	s.wantScan(t, first, all...)
	c := s.begin(t)
	wantErr(t, "Put", heap.Put(s.Manager, c, api.RID{Page: first, Slot: 6}, "c"), api.OK)
	s.wantFails(t, "Put", api.ErrNone, func() api.Errno { return heap.Put(s.Manager, c, api.RID{Page: first, Slot: 7}, "c") })
}

// 10.1: bits of the map that others turned over in the same byte stay.
func TestBackOfTheMap(t *testing.T) {
	s := begun(t)
	a, b := s.begin(t), s.begin(t)
	for i, n := range []int{a, b, a, b} {
		if p, e := heap.Allocate(s.Manager, n); p != api.Page(3+i) || e != api.OK {
			t.Error("Allocate:", p, e)
		}
	}
	wantErr(t, "Release", heap.Release(s.Manager, b, 2), api.OK)
	s.abort(t, a)
	s.wantTaken(t, 1, 4, 6)
	s.commit(t, b)
	s.wantTaken(t, 1, 4, 6)
	n := s.begin(t)
	if p, e := heap.Allocate(s.Manager, n); p != 2 || e != api.OK {
		t.Error("Allocate:", p, e)
	}
	s.abort(t, n)
	s.wantTaken(t, 1, 4, 6)
}

// 10.2: a page that Extend laid stays, for others who put rows there, though who laid it goes back.
func TestExtendStays(t *testing.T) {
	s := begun(t)
	lay := s.begin(t)
	first := s.create(t, lay)
	s.commit(t, lay)
	a, b := s.begin(t), s.begin(t)
	wantErr(t, "Extend", heap.Extend(s.Manager, a, first), api.OK)
	r := api.RID{Page: 4}
	wantErr(t, "Put", heap.Put(s.Manager, b, r, "b"), api.OK)
	s.abort(t, a)
	s.wantPages(t, first, 3, 4)
	s.wantTaken(t, 1, 2, 3, 4)
	s.commit(t, b)
	s.wantRow(t, r, "b")
}

// 10.2: one whose table is its own lets it go, though it was extended: what was nested stays, all else is as it was.
func TestBackOfCreate(t *testing.T) {
	s := begun(t)
	n := s.begin(t)
	first := s.create(t, n)
	s.put(t, n, first, "1", "2", "3", "4", "5", "6", "7")
	s.extend(t, n, first, 1)
	s.put(t, n, first, "8")
	s.abort(t, n)
	s.wantPage(t, page.Blank(3))
	s.wantPage(t, heapSheet(4, 0, slot(0, "")))
	s.wantTaken(t, 1, 2, 4)
}
