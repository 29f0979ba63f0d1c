package catalog_test

import (
	"fmt"
	"maps"
	"slices"
	"testing"

	"girder/api"
	"girder/catalog"
	"girder/disk"
	"girder/heap"
	"girder/page"
	"girder/undo"
)

// risen is a manager over a disk behind a crash, as the document's chapters of restart say: history is repeated, those that committed are ended, of all others the last record is taken back first; how many were taken back.
func risen(t *testing.T, d *disk.Disk, frames int) (store, int) {
	t.Helper()
	s := over(t, d, frames)
	found := map[int]*api.TxState{}
	most := 0
	for _, x := range records(t, s.l, 1) {
		most = max(most, x.r.Tx)
		s.repeat(t, x)
		note(found, x)
	}
	var l []api.TxState
	for _, n := range slices.Sorted(maps.Keys(found)) {
		l = append(l, *found[n])
	}
	wantErr(t, "Load", s.Load(l, most+1), api.OK)
	for _, x := range s.All() {
		if x.State == api.TxCommitted {
			wantErr(t, "Finish", s.Finish(x.Tx), api.OK)
		}
	}
	undone := 0
	for s.undoLast(t) {
		undone++
	}
	for _, x := range s.All() {
		s.abort(t, x.Tx)
	}
	return s, undone
}

// undoLast takes the last record back of all that are to be taken back, and tells whether there was one.
func (s store) undoLast(t *testing.T) bool {
	t.Helper()
	var last placed
	for _, x := range s.All() {
		r, at, e := s.Next(x.Tx)
		wantErr(t, "Next", e, api.OK)
		if at > last.at {
			last = placed{at, r}
		}
	}
	if last.at == 0 {
		return false
	}
	e := undo.One(s.Manager, last.r.Tx, last.r)
	wantErr(t, "One", e, api.OK)
	return e == api.OK
}

// repeat does the change of a record, if its page lacks it.
func (s store) repeat(t *testing.T, x placed) {
	t.Helper()
	if x.r.Kind != api.RecUpdate && x.r.Kind != api.RecCLR {
		return
	}
	p := s.get(t, x.r.Page)
	if p.LSN >= x.at {
		return
	}
	p, e := page.Apply(p, x.r.Op, x.at)
	wantErr(t, "Apply", e, api.OK)
	wantErr(t, "Put", s.p.Put(p), api.OK)
}

// note notes what a record says of its transaction.
func note(found map[int]*api.TxState, x placed) {
	f := found[x.r.Tx]
	if f == nil {
		f = &api.TxState{Tx: x.r.Tx, State: api.TxActive}
		found[x.r.Tx] = f
	}
	f.Last = x.at
	switch x.r.Kind {
	case api.RecUpdate:
		f.Next = x.at
	case api.RecCLR, api.RecTop:
		f.Next = x.r.Next
	case api.RecCommit:
		f.State = api.TxCommitted
	case api.RecAbort:
		f.State = api.TxAborting
	case api.RecEnd:
		delete(found, x.r.Tx)
	}
}

// cutLog is a disk whose log is that of a store, cut at a place, and whose pages were never written.
func (s store) cutLog(t *testing.T, at api.LSN) *disk.Disk {
	t.Helper()
	wantErr(t, "Flush", s.l.Flush(s.l.End()), api.OK)
	d, e := disk.New(s.d.Room())
	wantErr(t, "disk.New", e, api.OK)
	l, e := s.d.ReadLog()
	wantErr(t, "ReadLog", e, api.OK)
	wantErr(t, "AppendLog", d.AppendLog(l[:at-1]), api.OK)
	wantErr(t, "SyncLog", d.SyncLog(), api.OK)
	return d
}

// 17.1, T1: the log is cut behind each record of Begin: it is begun, or nothing is there, and it can be begun.
func TestBeginCutOff(t *testing.T) {
	s := begun(t)
	l := append(records(t, s.l, 1), placed{at: s.l.End()})
	for i, x := range l {
		again, _ := risen(t, s.cutLog(t, x.at), 4)
		again.wantBegun(t, i > 3)
		if i <= 3 {
			for n := range api.Page(8) {
				again.wantPage(t, page.Blank(n+1))
			}
			wantErr(t, "Begin", catalog.Begin(again.Manager), api.OK)
		}
		again.wantLaid(t)
		if t.Failed() {
			t.Fatal("cut at", x.at)
		}
	}
	if len(l) != 6 {
		t.Error("records:", len(l))
	}
}

// 17.3, T1: the log is cut behind each record: what committed is there, all else was never there, and no page is taken for it.
func TestCutOff(t *testing.T) {
	s, _ := stocked(t)
	n := s.begin(t)
	s.create(t, n, "cccc", 1)
	s.create(t, n, "dddd", 1)
	x := s.create(t, n, "eeee", 1)
	x.Indexes = append(x.Indexes, s.index(t, n, "eeee", "x", true, 0))
	s.drop(t, n, "aaaa")
	s.drop(t, n, "cccc")
	l := records(t, s.l, 1)
	// How far it had come: 1 is begun, 2 is stocked.
	committed := 0
	for _, y := range append(l, placed{at: s.l.End()}) {
		again, _ := risen(t, s.cutLog(t, y.at), 4+int(y.at)%20)
		again.wantBegun(t, committed > 0)
		switch committed {
		case 1:
			again.wantAll(t)
			again.wantTaken(t, 1, 2)
		case 2:
			again.wantStocked(t)
			again.wantTakenButExtended(t, 1, 2, 3, 4, 5, 6, 7)
		}
		if y.r.Kind == api.RecCommit {
			committed++
		}
		if t.Failed() {
			t.Fatal("cut at", y.at)
		}
	}
	if committed != 2 {
		t.Error("committed:", committed)
	}
	s.commit(t, n)
	b := table("bbbb", 2, 4, 3, index("xxxx", 5, 7, false, 0, 1, 2))
	again, undone := risen(t, s.cutLog(t, s.l.End()), 4)
	again.wantAll(t, b, table("dddd", 7, 9, 1), x)
	if undone != 0 {
		t.Error("undone:", undone)
	}
}

// wantTakenButExtended asks which pages are taken, beside those that the catalog was extended by.
func (s store) wantTakenButExtended(t *testing.T, want ...api.Page) {
	t.Helper()
	pages, e := heap.Pages(s.Manager, api.RootPage)
	wantErr(t, "Pages", e, api.OK)
	want = append(want, pages[1:]...)
	slices.Sort(want)
	s.wantTaken(t, want...)
}

// wantStocked asks for what stocked has, and nothing else.
func (s store) wantStocked(t *testing.T) {
	t.Helper()
	want := []api.Table{
		table("aaaa", 1, 3, 2, index("xxxx", 3, 5, true, 1, 0), index("yyyy", 4, 6, false, 0)),
		table("bbbb", 2, 4, 3, index("xxxx", 5, 7, false, 0, 1, 2)),
	}
	s.wantAll(t, want...)
	s.wantEmpty(t, want...)
}

// 17.1, 17.3, T1: the power fails at each call of the disk, in a pool that writes pages early, in the midst of creating and dropping, and again when it has stood up.
func TestFalls(t *testing.T) {
	fell := 0
	for fall := range 60 {
		d, _ := disk.New(16)
		s := over(t, d, 4)
		wantErr(t, "Begin", catalog.Begin(s.Manager), api.OK)
		n := s.begin(t)
		a := s.create(t, n, "aaaa", 2)
		a.Indexes = append(a.Indexes, s.index(t, n, "aaaa", "x", true, 0))
		s.commit(t, n)
		s.p.Picks([]int{fall % 3, 1, 2, 3, 0, fall % 5, 1, 3, 2, 0, 1})
		d.Plan([]api.Fall{{At: d.Calls() + fall, Keep: uint64(fall) * 0x9e3779b97f4a7c15, Torn: fall % 4, Bytes: 100, Log: fall * 31}})
		n = s.begin(t)
		var l []api.Table
		e := api.OK
		for i := 0; i < 7 && e == api.OK; i++ {
			var x api.Table
			if x, e = catalog.Create(s.Manager, n, fmt.Sprint("t", i), 1+i%4); e == api.OK {
				l = append(l, x)
			}
		}
		if e == api.OK {
			e = s.drops(n, "aaaa")()
		}
		told := e == api.OK
		if told {
			if e = s.Commit(n); e == api.ErrDead {
				told = false
			}
		}
		if e == api.ErrDead {
			fell++
		} else {
			wantErr(t, "what was done", e, api.OK)
			d.Crash(api.Fall{Log: fall * 17})
		}
		d.Plan(nil)
		for i := range 2 {
			d.Up()
			again, _ := risen(t, d, 4+i)
			if is, e := catalog.Begun(again.Manager); !is || e != api.OK {
				t.Fatal("Begun:", is, e)
			}
			if _, e := catalog.Find(again.Manager, "aaaa"); e == api.OK && !told {
				again.wantAll(t, a)
				again.wantEmpty(t, a)
			} else {
				// It was told, or may have committed.
				again.wantAll(t, l...)
				again.wantEmpty(t, l...)
			}
			again.d.Crash(api.Fall{Keep: uint64(fall), Log: fall * 11})
		}
		if t.Failed() {
			t.Fatal("fall", fall)
		}
	}
	if fell < 15 {
		t.Error("it fell too seldom in the midst:", fell)
	}
}
