package heap_test

import (
	"slices"
	"testing"

	"girder/api"
	"girder/heap"
	"girder/page"
	"girder/pool"
	"girder/space"
	"girder/txn"
)

// calls is every call that changes something, each of which would be OK of a transaction that is under way.
func (s store) calls(n int, first api.Page, live, gone, next api.RID) map[string]func() api.Errno {
	none := func(p api.Page, e api.Errno) api.Errno {
		if e != api.OK && p != 0 {
			return 777
		}
		return e
	}
	return map[string]func() api.Errno{
		"Allocate":          func() api.Errno { return none(heap.Allocate(s.Manager, n)) },
		"Release":           func() api.Errno { return heap.Release(s.Manager, n, first) },
		"Create":            func() api.Errno { return none(heap.Create(s.Manager, n)) },
		"Extend":            func() api.Errno { return heap.Extend(s.Manager, n, first) },
		"Put at the next":   func() api.Errno { return heap.Put(s.Manager, n, next, "x") },
		"Put where one was": func() api.Errno { return heap.Put(s.Manager, n, gone, "x") },
		"Delete":            func() api.Errno { return heap.Delete(s.Manager, n, live) },
		"Update":            func() api.Errno { return heap.Update(s.Manager, n, live, "x") },
	}
}

// filled is a store with a table of two pages, of whose slots the first is live, the second went, and the third is not there yet.
func filled(t *testing.T) (s store, first api.Page, live, gone, next api.RID) {
	t.Helper()
	s = begun(t)
	n := s.begin(t)
	first = s.create(t, n)
	s.extend(t, n, first, 1)
	l := s.put(t, n, first, "live", "gone")
	wantErr(t, "Delete", heap.Delete(s.Manager, n, l[1]), api.OK)
	s.commit(t, n)
	return s, first, l[0], l[1], api.RID{Page: first, Slot: 2}
}

// A nil Manager, at every function.
func TestNilManager(t *testing.T) {
	var s store
	r := api.RID{Page: 3}
	for what, call := range s.calls(1, 3, r, r, r) {
		wantErr(t, what, call(), api.ErrArg)
	}
	if l, e := heap.Pages(nil, 3); len(l) != 0 || e != api.ErrArg {
		t.Error("Pages:", l, e)
	}
	if l, e := heap.Scan(nil, 3); len(l) != 0 || e != api.ErrArg {
		t.Error("Scan:", l, e)
	}
	if row, e := heap.Get(nil, r); row != "" || e != api.ErrArg {
		t.Error("Get:", row, e)
	}
	for _, free := range []func(api.RID) bool{nil, anywhere} {
		if r, is, e := heap.Place(nil, 3, free); r != (api.RID{}) || is || e != api.ErrArg {
			t.Error("Place:", r, is, e)
		}
	}
	// The row is looked at first.
	wantErr(t, "Put", heap.Put(nil, 1, r, long(61)), api.ErrRow)
	wantErr(t, "Update", heap.Update(nil, 1, r, long(61)), api.ErrRow)
}

// A transaction that is none, at every function: one that never was, that is to come, that ended.
func TestNoTransaction(t *testing.T) {
	s, first, live, gone, next := filled(t)
	aborted := s.begin(t)
	s.abort(t, aborted)
	s.begin(t)
	for _, n := range []int{-1 << 63, -1, 0, 1, 2, aborted, s.Coming(), 1 << 31, 1<<63 - 1} {
		for what, call := range s.calls(n, first, live, gone, next) {
			s.wantFails(t, what, api.ErrTx, call)
		}
	}
	// And one that is under way can.
	for what := range s.calls(0, first, live, gone, next) {
		s, first, live, gone, next := filled(t)
		wantErr(t, what, s.calls(s.begin(t), first, live, gone, next)[what](), api.OK)
	}
}

// A transaction that is not active, at every function; when the log is full, too.
func TestNotActive(t *testing.T) {
	s, first, live, gone, next := filled(t)
	n := s.begin(t)
	wantErr(t, "Update", heap.Update(s.Manager, n, live, "x"), api.OK)
	wantErr(t, "Abort", s.Abort(n, func(int, api.Rec) api.Errno { return 777 }), 777)
	for range 2 {
		for what, call := range s.calls(n, first, live, gone, next) {
			s.wantFails(t, what, api.ErrState, call)
		}
		for what, call := range s.calls(99, first, live, gone, next) {
			s.wantFails(t, what, api.ErrTx, call)
		}
		s.leave(t, 0)
	}
	s.abort(t, n)
	s.wantRow(t, live, "live")
}

// R2: one that a restart laid, whose undoing goes on at a record that is not taken back: a call that fails leaves it there.
func TestNotActiveStays(t *testing.T) {
	s, first, live, gone, next := filled(t)
	n := s.begin(t)
	wantErr(t, "Delete", heap.Delete(s.Manager, n, live), api.OK)
	wantErr(t, "Put", heap.Put(s.Manager, n, live, "live"), api.OK)
	at := s.log(t, n, api.Change{Page: 9, Op: heap.Format()})
	s.commit(t, n)
	wantErr(t, "Load", s.Load([]api.TxState{{Tx: n, State: api.TxAborting, Last: at, Next: at}}, n+1), api.OK)
	for what, call := range s.calls(n, first, live, gone, next) {
		s.wantFails(t, what, api.ErrState, call)
	}
}

// A transaction whose number no record may have.
func TestGreatNumber(t *testing.T) {
	s, first, live, gone, next := filled(t)
	wantErr(t, "Load", s.Load(nil, 1<<31), api.OK)
	n := s.begin(t)
	for what, call := range s.calls(n, first, live, gone, next) {
		s.wantFails(t, what, api.ErrRec, call)
	}
}

// Without a map: Allocate, Release, Create and Extend say so; rows need none.
func TestNoMap(t *testing.T) {
	for _, x := range []api.Sheet{page.Blank(1), heapSheet(1, 0), {Number: 1, Kind: api.KindMap}, {Number: 1, Kind: api.KindMap, Slots: []string{"x"}}} {
		s := bare(t, room, frames)
		wantErr(t, "pool.Put", s.p.Put(x), api.OK)
		wantErr(t, "pool.Put", s.p.Put(heapSheet(3, 0, slot(1, "live"), slot(0, "gone"))), api.OK)
		n := s.begin(t)
		l := s.calls(n, 3, api.RID{Page: 3}, api.RID{Page: 3, Slot: 1}, api.RID{Page: 3, Slot: 2})
		for _, what := range []string{"Allocate", "Release", "Create", "Extend"} {
			s.wantFails(t, what, api.ErrMap, l[what])
		}
		for _, what := range []string{"Put where one was", "Put at the next", "Update", "Delete"} {
			wantErr(t, what, l[what](), api.OK)
		}
	}
}

// The power is off: what must be read is told as the disk tells it.
func TestDeadDisk(t *testing.T) {
	s, first, live, gone, next := filled(t)
	wantErr(t, "WriteAll", s.p.WriteAll(), api.OK)
	p, e := pool.New(s.d, s.l, 4)
	wantErr(t, "pool.New", e, api.OK)
	s = store{Manager: txn.New(p), d: s.d, l: s.l, p: p}
	n := s.begin(t)
	s.d.Crash(api.Fall{})
	for what, call := range s.calls(n, first, live, gone, next) {
		wantErr(t, what, call(), api.ErrDead)
	}
	if l, e := heap.Pages(s.Manager, first); len(l) != 0 || e != api.ErrDead {
		t.Error("Pages:", l, e)
	}
	if l, e := heap.Scan(s.Manager, first); len(l) != 0 || e != api.ErrDead {
		t.Error("Scan:", l, e)
	}
	s.wantNoPlace(t, first, anywhere, api.ErrDead)
	s.wantNoRow(t, live, api.ErrDead)
	s.d.Up()
	s.wantRow(t, live, "live")
	if x, _ := s.State(n); x != (api.TxState{Tx: n, State: api.TxActive}) {
		t.Error("State:", x)
	}
}

// 10.1, 10.2, R2: a fresh page that can't be read: what was done for it is taken back, rows and what the transaction did ahead stay.
func TestFreshPageUnreadable(t *testing.T) {
	for _, ahead := range []bool{false, true} {
		s, first, live, _, next := filled(t)
		s.spoil(t, 5)
		n := s.begin(t)
		if ahead {
			wantErr(t, "Update", heap.Update(s.Manager, n, live, "other"), api.OK)
			wantErr(t, "Put", heap.Put(s.Manager, n, next, "more"), api.OK)
		}
		to := s.save(t, n)
		var was []api.Sheet
		for p := api.Page(1); p <= 4; p++ {
			was = append(was, s.get(t, p))
		}
		l := s.calls(n, first, live, live, next)
		for _, what := range []string{"Create", "Extend", "Create"} {
			wantErr(t, what, l[what](), api.ErrCorrupt)
			for _, x := range was {
				s.wantPage(t, x)
			}
			if at := s.save(t, n); at != to {
				t.Errorf("Save: %d, not %d", at, to)
			}
		}
		s.wantTaken(t, 1, 2, 3, 4)
		s.wantPages(t, first, 3, 4)
		s.wantRow(t, live, map[bool]string{false: "live", true: "other"}[ahead])
		// The transaction goes on, and back.
		s.log(t, n, api.Change{Page: api.MapPage, Op: claim(t, s, 5)})
		s.extend(t, n, first, 1)
		s.wantPages(t, first, 3, 4, 6)
		s.abort(t, n)
		s.wantRow(t, live, "live")
		s.wantNoRow(t, next, api.ErrNone)
		if s.l.Kept() != 0 {
			t.Error("kept:", s.l.Kept())
		}
	}
}

// claim is the change that takes a page.
func claim(t *testing.T, s store, p api.Page) api.Op {
	t.Helper()
	op, e := space.Claim(s.get(t, api.MapPage), p)
	wantErr(t, "Claim", e, api.OK)
	return op
}

// 10.2, R2: the last page can't be fetched any more, when it is to be linked: what was done is taken back.
func TestLastPageLost(t *testing.T) {
	s, first, live, _, _ := filled(t)
	wantErr(t, "WriteAll", s.p.WriteAll(), api.OK)
	s = over(t, s.d, 4)
	wantErr(t, "Load", s.Load(nil, 9), api.OK)
	n := s.begin(t)
	// Page 4 leaves the pool when page 5 comes, and nothing can be read at its place then.
	for _, p := range []api.Page{1, 3, 4, 16} {
		s.get(t, p)
	}
	s.p.Picks([]int{2})
	s.spoil(t, 4)
	wantErr(t, "Extend", heap.Extend(s.Manager, n, first), api.ErrCorrupt)
	if slices.Contains(s.p.Numbers(), 4) {
		t.Fatal("page 4 is in a frame:", s.p.Numbers())
	}
	s.wantTaken(t, 1, 2, 3, 4)
	s.wantPage(t, page.Blank(5))
	s.wantRow(t, live, "live")
	if at := s.save(t, n); at != 0 {
		t.Error("Save:", at)
	}
	s.commit(t, n)
}
