package smo_test

import (
	"maps"
	"slices"
	"testing"

	"girder/api"
	"girder/disk"
	"girder/page"
	"girder/smo"
	"girder/space"
	"girder/tree"
)

// risen is a manager over a disk behind a crash, as the document's chapters of restart say: history is repeated, those that committed are ended, all others go back, the last record first.
func risen(t *testing.T, d *disk.Disk, frames int) store {
	t.Helper()
	s := over(t, d, frames)
	found := map[int]*api.TxState{}
	most := 0
	for _, x := range records(t, s.l, 1) {
		most = max(most, x.r.Tx)
		s.repeat(t, x)
		note(found, x)
	}
	var l []api.TxState
	for _, n := range slices.Sorted(maps.Keys(found)) {
		l = append(l, *found[n])
	}
	wantErr(t, "Load", s.Load(l, most+1), api.OK)
	for _, x := range s.All() {
		if x.State == api.TxCommitted {
			wantErr(t, "Finish", s.Finish(x.Tx), api.OK)
		}
	}
	for s.undoLast(t) {
	}
	for _, x := range s.All() {
		s.abort(t, x.Tx)
	}
	return s
}

// undoLast takes the last record back of all that are to be taken back, and tells whether there was one.
func (s store) undoLast(t *testing.T) bool {
	t.Helper()
	var last placed
	for _, x := range s.All() {
		r, at, e := s.Next(x.Tx)
		wantErr(t, "Next", e, api.OK)
		if at > last.at {
			last = placed{at, r}
		}
	}
	if last.at == 0 {
		return false
	}
	e := s.undo(last.r.Tx, last.r)
	wantErr(t, "undo", e, api.OK)
	return e == api.OK
}

// repeat does the change of a record, if its page lacks it.
func (s store) repeat(t *testing.T, x placed) {
	t.Helper()
	if x.r.Kind != api.RecUpdate && x.r.Kind != api.RecCLR {
		return
	}
	p := s.get(t, x.r.Page)
	if p.LSN >= x.at {
		return
	}
	p, e := page.Apply(p, x.r.Op, x.at)
	wantErr(t, "Apply", e, api.OK)
	wantErr(t, "Put", s.p.Put(p), api.OK)
}

// note notes what a record says of its transaction.
func note(found map[int]*api.TxState, x placed) {
	f := found[x.r.Tx]
	if f == nil {
		f = &api.TxState{Tx: x.r.Tx, State: api.TxActive}
		found[x.r.Tx] = f
	}
	f.Last = x.at
	switch x.r.Kind {
	case api.RecUpdate:
		f.Next = x.at
	case api.RecCLR, api.RecTop:
		f.Next = x.r.Next
	case api.RecCommit:
		f.State = api.TxCommitted
	case api.RecAbort:
		f.State = api.TxAborting
	case api.RecEnd:
		delete(found, x.r.Tx)
	}
}

// cutOff is what stands up from a store whose log is cut at a place, and whose pages were never written.
func (s store) cutOff(t *testing.T, at api.LSN) store {
	t.Helper()
	wantErr(t, "Flush", s.l.Flush(s.l.End()), api.OK)
	d, e := disk.New(s.d.Room())
	wantErr(t, "disk.New", e, api.OK)
	l, e := s.d.ReadLog()
	wantErr(t, "ReadLog", e, api.OK)
	wantErr(t, "AppendLog", d.AppendLog(l[:at-1]), api.OK)
	wantErr(t, "SyncLog", d.SyncLog(), api.OK)
	return risen(t, d, frames)
}

// wantLive asks for a tree that is well formed, whose pages are taken, and whose live entries are these, in any order of ghosts; no other page is taken, but the first two.
func (s store) wantLive(t *testing.T, root api.Page, want []api.Entry) {
	t.Helper()
	pages, e := tree.Check(s.p, root)
	wantErr(t, "Check", e, api.OK)
	taken := space.All(s.get(t, api.MapPage))
	for _, n := range pages {
		if !slices.Contains(taken, n) {
			t.Errorf("page %d is in the tree, and free", n)
		}
	}
	if len(taken) != len(pages)+2 {
		t.Errorf("taken: %v; the tree has %v", taken, pages)
	}
	l, e := tree.All(s.p, root)
	wantErr(t, "All", e, api.OK)
	var is []api.Entry
	for _, x := range l {
		if x.Live {
			is = append(is, x.Entry)
		}
	}
	if !slices.Equal(is, want) {
		t.Errorf("live: %v, not %v", is, want)
	}
}

// 14.3, T1, T3: the power fails behind each record of an Insert by which pages are cut in two and the root grows, and of what is done behind it.
func TestInsertCutOff(t *testing.T) {
	s := begun(t)
	n := s.begin(t)
	root := s.create(t, n)
	i := 0
	// Up to a root of two levels that is full, and a last leaf that is full.
	for ; s.levels(t, root) < 3; i++ {
		if s.save(t, n) != 0 {
			s.commit(t, n)
			n = s.begin(t)
		}
		s.insert(t, n, root, wide(i))
	}
	// The last Insert, not committed, let the root grow.
	from := api.LSN(1)
	for _, x := range records(t, s.l, 1) {
		if x.r.Kind == api.RecCommit {
			from = x.at
		}
	}
	s.delete(t, n, root, wide(0), wide(i-1))
	end := s.l.End()
	cuts, tops := 0, 0
	for _, x := range records(t, s.l, from) {
		if x.at == from {
			continue
		}
		again := s.cutOff(t, x.at)
		again.wantLive(t, root, wides(0, i-1))
		cuts++
		if x.r.Kind == api.RecTop {
			tops++
		}
		if t.Failed() {
			t.Fatal("cut at", x.at)
		}
	}
	s.cutOff(t, end).wantLive(t, root, wides(0, i-1))
	if cuts < 30 || tops < 2 {
		t.Error("cuts:", cuts, "nested:", tops)
	}
}

// 14.2, 14.3, T1, T3: the power fails behind each record of a Clean.
func TestCleanCutOff(t *testing.T) {
	s := begun(t)
	n := s.begin(t)
	root := s.create(t, n)
	s.insert(t, n, root, wides(0, 40)...)
	s.delete(t, n, root, wides(0, 18)...)
	s.delete(t, n, root, wides(20, 40)...)
	s.commit(t, n)
	n = s.begin(t)
	s.insert(t, n, root, wide(5))
	from := s.l.End()
	was := len(s.pagesOf(t, root))
	if g, p, e := smo.Clean(s.Manager, n, root, func(r api.RID) bool { return r.Slot != 5 }); g != 37 || p == 0 || e != api.OK {
		t.Fatal("Clean:", g, p, e)
	}
	is := len(s.pagesOf(t, root))
	s.delete(t, n, root, wide(18))
	met := map[int]int{}
	for _, x := range records(t, s.l, from) {
		again := s.cutOff(t, x.at)
		again.wantLive(t, root, wides(18, 20))
		met[len(again.pagesOf(t, root))]++
		if t.Failed() {
			t.Fatal("cut at", x.at)
		}
	}
	if met[was] == 0 || met[is] == 0 || len(met) < 5 {
		t.Error("pages that were left, and how often:", met)
	}
}

// wantAsAt holds a store against what had committed at a place of the log.
func (w *walk) wantAsAt(s store, cut api.LSN) {
	w.t.Helper()
	var x point
	for _, y := range w.points {
		if y.at < cut {
			x = y
		}
	}
	s.wantLive(w.t, w.root, x.sure)
}

// T1, T3: the power fails behind some records of a walk: what committed stays, all else goes, and the tree is well formed.
func TestWalksCutOff(t *testing.T) {
	for seed := range int64(3) {
		w := newWalk(t, 1000+seed, 60, frames, 1000)
		from := w.l.End()
		for range 300 {
			w.step()
		}
		l := records(t, w.l, from)
		for range 60 {
			at := l[w.r.Intn(len(l))].at
			w.wantAsAt(w.cutOff(t, at), at)
			if t.Failed() {
				t.Fatal("seed", seed, "cut at", at)
			}
		}
	}
}

// T1, T3: the power fails somewhere, in a pool that writes pages early, and again when it has stood up: what committed is there.
func TestWalksFall(t *testing.T) {
	for seed := range int64(20) {
		w := newWalk(t, 2000+seed, 60, 4+int(seed)%4, 1000)
		for range 100 + w.r.Intn(200) {
			w.step()
		}
		cut := w.l.Flushed()
		w.d.Crash(api.Fall{Keep: w.r.Uint64()})
		for range 2 {
			w.d.Up()
			s := risen(t, w.d, 4)
			w.wantAsAt(s, cut)
			s.d.Crash(api.Fall{Keep: w.r.Uint64(), Log: w.r.Intn(200)})
		}
		if t.Failed() {
			t.Fatal("seed", seed)
		}
	}
}

// T1, T3: the power fails at each call of the disk in the midst of Insert and Clean: they tell it, and the tree stands up.
func TestFallsInTheMidst(t *testing.T) {
	fell := 0
	for fall := range 120 {
		s := laid(t, room, 4, 2)
		n := s.begin(t)
		root := s.create(t, n)
		s.insert(t, n, root, wides(0, 30)...)
		s.delete(t, n, root, wides(12, 22)...)
		s.commit(t, n)
		n = s.begin(t)
		s.p.Picks([]int{fall % 3, 1, 2, 3, 0, fall % 5, 1, 3, 2, 0, 1})
		s.d.Plan([]api.Fall{{At: s.d.Calls() + fall, Keep: uint64(fall) * 0x9e3779b97f4a7c15, Torn: fall % 4, Bytes: 100, Log: fall * 13}})
		e := api.OK
		for i := 30; i < 36 && e == api.OK; i++ {
			e = smo.Insert(s.Manager, n, root, wide(i), nil)
		}
		if e == api.OK {
			var g, p int
			if g, p, e = smo.Clean(s.Manager, n, root, all); e != api.OK && (g != 0 || p != 0) {
				t.Error("Clean:", g, p)
			}
		}
		if e != api.OK && e != api.ErrDead {
			t.Fatal("error:", e)
		}
		if e == api.OK {
			s.d.Crash(api.Fall{Log: fall * 17})
		} else {
			fell++
		}
		s.d.Up()
		s.d.Plan(nil)
		risen(t, s.d, 4).wantLive(t, root, append(wides(0, 12), wides(22, 30)...))
		if t.Failed() {
			t.Fatal("fall", fall)
		}
	}
	if fell < 40 {
		t.Error("it fell too seldom in the midst:", fell)
	}
}
