package heap_test

import (
	"slices"
	"testing"

	"girder/api"
	"girder/disk"
	"girder/heap"
	"girder/page"
	"girder/space"
)

// risen is a manager over a disk behind a crash, as the document's chapters of restart say: history is repeated, those that committed are ended, all others go back.
func risen(t *testing.T, d *disk.Disk, frames int) store {
	t.Helper()
	s := over(t, d, frames)
	found := map[int]*api.TxState{}
	most := 0
	for _, x := range records(t, s.l) {
		most = max(most, x.r.Tx)
		s.repeat(t, x)
		note(found, x)
	}
	var l []api.TxState
	for _, f := range found {
		l = append(l, *f)
	}
	wantErr(t, "Load", s.Load(l, most+1), api.OK)
	for _, x := range s.All() {
		if x.State == api.TxCommitted {
			wantErr(t, "Finish", s.Finish(x.Tx), api.OK)
		} else {
			s.abort(t, x.Tx)
		}
	}
	return s
}

// repeat does the change of a record, if its page lacks it.
func (s store) repeat(t *testing.T, x placed) {
	t.Helper()
	if x.r.Kind != api.RecUpdate && x.r.Kind != api.RecCLR {
		return
	}
	p := s.get(t, x.r.Page)
	if p.LSN >= x.at {
		return
	}
	p, e := page.Apply(p, x.r.Op, x.at)
	wantErr(t, "Apply", e, api.OK)
	wantErr(t, "Put", s.p.Put(p), api.OK)
}

// note notes what a record says of its transaction.
func note(found map[int]*api.TxState, x placed) {
	f := found[x.r.Tx]
	if f == nil {
		f = &api.TxState{Tx: x.r.Tx, State: api.TxActive}
		found[x.r.Tx] = f
	}
	f.Last = x.at
	switch x.r.Kind {
	case api.RecUpdate:
		f.Next = x.at
	case api.RecCLR, api.RecTop:
		f.Next = x.r.Next
	case api.RecCommit:
		f.State = api.TxCommitted
	case api.RecAbort:
		f.State = api.TxAborting
	case api.RecEnd:
		delete(found, x.r.Tx)
	}
}

// cut is what stands up from a store whose log is cut at a place, and whose pages were never written.
func (s store) cut(t *testing.T, at api.LSN) store {
	t.Helper()
	d, e := disk.New(s.d.Room())
	wantErr(t, "disk.New", e, api.OK)
	l, e := s.d.ReadLog()
	wantErr(t, "ReadLog", e, api.OK)
	wantErr(t, "AppendLog", d.AppendLog(l[:at-1]), api.OK)
	wantErr(t, "SyncLog", d.SyncLog(), api.OK)
	return risen(t, d, frames)
}

// wantSound asks that tables have no page in common, and that each page of theirs is taken.
func (s store) wantSound(t *testing.T, tables ...api.Page) {
	t.Helper()
	met := map[api.Page]int{}
	for _, first := range tables {
		pages, e := heap.Pages(s.Manager, first)
		wantErr(t, "Pages", e, api.OK)
		for _, p := range pages {
			met[p]++
			if met[p] > 1 || !space.Taken(s.get(t, api.MapPage), p) {
				t.Errorf("page %d is in use %d times; taken: %t", p, met[p], space.Taken(s.get(t, api.MapPage), p))
			}
		}
	}
}

// 10.2, 10.4, T1: the power fails behind each record of Extend: the table has the page wholly, or it is free.
func TestExtendCutOff(t *testing.T) {
	s, first, live, _, _ := filled(t)
	n := s.begin(t)
	r := api.RID{Page: 4}
	wantErr(t, "Put", heap.Put(s.Manager, n, r, "lost"), api.OK)
	from := s.l.End()
	wantErr(t, "Extend", heap.Extend(s.Manager, n, first), api.OK)
	end := s.l.End()
	wantErr(t, "Put", heap.Put(s.Manager, n, api.RID{Page: 5}, "lost"), api.OK)
	wantErr(t, "Flush", s.l.Flush(s.l.End()), api.OK)
	cuts := 0
	for _, x := range records(t, s.l) {
		if x.at < from {
			continue
		}
		cuts++
		again := s.cut(t, x.at)
		again.wantSound(t, first)
		again.wantScan(t, first, api.Stored{RID: live, Row: "live"})
		if x.at < end {
			again.wantPages(t, first, 3, 4)
			again.wantTaken(t, 1, 2, 3, 4)
			again.wantPage(t, page.Blank(5))
		} else {
			again.wantPages(t, first, 3, 4, 5)
			again.wantTaken(t, 1, 2, 3, 4, 5)
		}
	}
	if cuts != 6 {
		t.Error("cuts:", cuts)
	}
}

// 10.2, R2, T1: the power fails at each call of the disk while a page is laid, in a pool that has room for few: what stands up has the rows, and the page wholly or not.
func TestExtendFalls(t *testing.T) {
	fell := 0
	for fall := range 200 {
		s := laid(t, room, 4, 2)
		n := s.begin(t)
		first := s.create(t, n)
		s.extend(t, n, first, 3)
		rows := s.put(t, n, first, "1", "2", "3", "4", "5", "6", "7", "8")
		s.commit(t, n)
		n = s.begin(t)
		wantErr(t, "Update", heap.Update(s.Manager, n, rows[0], "x"), api.OK)
		s.p.Picks([]int{fall % 3, 1, 2, 3, 0, fall % 5, 1, 3, 2, 0, 1})
		s.d.Plan([]api.Fall{{At: s.d.Calls() + fall/2, Keep: uint64(fall) * 0x9e3779b97f4a7c15, Torn: fall % 4, Bytes: 100, Log: fall * 13}})
		e := heap.Extend(s.Manager, n, first)
		if e != api.OK && e != api.ErrDead {
			t.Fatal("Extend:", e)
		}
		if e == api.OK {
			s.d.Crash(api.Fall{Log: fall * 7})
		} else {
			fell++
		}
		s.d.Up()
		s.d.Plan(nil)
		s = risen(t, s.d, 4)
		s.wantSound(t, first)
		pages, _ := heap.Pages(s.Manager, first)
		if !slices.Equal(pages, []api.Page{3, 4, 5, 6}) && !slices.Equal(pages, []api.Page{3, 4, 5, 6, 7}) {
			t.Error("Pages:", pages)
		}
		if x := space.All(s.get(t, api.MapPage)); len(x) != 2+len(pages) {
			t.Error("taken:", x, "of", pages)
		}
		for i, r := range rows {
			s.wantRow(t, r, string(rune('1'+i)))
		}
		if t.Failed() {
			t.Fatal("fall", fall, pages)
		}
	}
	if fell < 20 {
		t.Error("it fell too seldom in the midst:", fell)
	}
}
