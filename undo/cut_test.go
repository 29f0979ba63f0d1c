package undo_test

import (
	"fmt"
	"maps"
	"slices"
	"testing"

	"girder/api"
	"girder/disk"
	"girder/heap"
	"girder/page"
	"girder/smo"
	"girder/undo"
)

// risen is a manager over a disk behind a crash, as the document's chapters of restart say: history is repeated, those that committed are ended, of all others the last record is taken back first; how many were taken back.
func risen(t *testing.T, d *disk.Disk, frames int) (store, int) {
	t.Helper()
	s := over(t, d, frames)
	found := map[int]*api.TxState{}
	most := 0
	for _, x := range records(t, s.l, 1) {
		most = max(most, x.r.Tx)
		s.repeat(t, x)
		note(found, x)
	}
	var l []api.TxState
	for _, n := range slices.Sorted(maps.Keys(found)) {
		l = append(l, *found[n])
	}
	wantErr(t, "Load", s.Load(l, most+1), api.OK)
	for _, x := range s.All() {
		if x.State == api.TxCommitted {
			wantErr(t, "Finish", s.Finish(x.Tx), api.OK)
		}
	}
	undone := 0
	for s.undoLast(t) {
		undone++
	}
	for _, x := range s.All() {
		s.abort(t, x.Tx)
	}
	return s, undone
}

// undoLast takes the last record back of all that are to be taken back, and tells whether there was one.
func (s store) undoLast(t *testing.T) bool {
	t.Helper()
	var last placed
	for _, x := range s.All() {
		r, at, e := s.Next(x.Tx)
		wantErr(t, "Next", e, api.OK)
		if at > last.at {
			last = placed{at, r}
		}
	}
	if last.at == 0 {
		return false
	}
	e := undo.One(s.Manager, last.r.Tx, last.r)
	wantErr(t, "One", e, api.OK)
	return e == api.OK
}

// repeat does the change of a record, if its page lacks it.
func (s store) repeat(t *testing.T, x placed) {
	t.Helper()
	if x.r.Kind != api.RecUpdate && x.r.Kind != api.RecCLR {
		return
	}
	p := s.get(t, x.r.Page)
	if p.LSN >= x.at {
		return
	}
	p, e := page.Apply(p, x.r.Op, x.at)
	wantErr(t, "Apply", e, api.OK)
	wantErr(t, "Put", s.p.Put(p), api.OK)
}

// note notes what a record says of its transaction.
func note(found map[int]*api.TxState, x placed) {
	f := found[x.r.Tx]
	if f == nil {
		f = &api.TxState{Tx: x.r.Tx, State: api.TxActive}
		found[x.r.Tx] = f
	}
	f.Last = x.at
	switch x.r.Kind {
	case api.RecUpdate:
		f.Next = x.at
	case api.RecCLR, api.RecTop:
		f.Next = x.r.Next
	case api.RecCommit:
		f.State = api.TxCommitted
	case api.RecAbort:
		f.State = api.TxAborting
	case api.RecEnd:
		delete(found, x.r.Tx)
	}
}

// cutLog is a disk whose log is that of a store, cut at a place, and whose pages were never written.
func (s store) cutLog(t *testing.T, at api.LSN) *disk.Disk {
	t.Helper()
	wantErr(t, "Flush", s.l.Flush(s.l.End()), api.OK)
	d, e := disk.New(s.d.Room())
	wantErr(t, "disk.New", e, api.OK)
	l, e := s.d.ReadLog()
	wantErr(t, "ReadLog", e, api.OK)
	wantErr(t, "AppendLog", d.AppendLog(l[:at-1]), api.OK)
	wantErr(t, "SyncLog", d.SyncLog(), api.OK)
	return d
}

// onlySome is With, for so many records; then it tells an error.
func (s store) onlySome(many int) func(int, api.Rec) api.Errno {
	with := undo.With(s.Manager)
	return func(n int, r api.Rec) api.Errno {
		if many--; many < 0 {
			return 777
		}
		return with(n, r)
	}
}

// 16.2: a roll back that was cut short, behind any number of records, is gone on with: each record is taken back once, the last one first.
func TestCutShort(t *testing.T) {
	x := play(t)
	many := len(x.due(t, x.n, 0))
	if many < 12 {
		t.Fatal("too little:", many)
	}
	for cut := range many {
		for _, wholly := range []bool{false, true} {
			x := play(t)
			due, from := x.due(t, x.n, 0), x.l.End()
			if wholly {
				wantErr(t, "Abort", x.Abort(x.n, x.onlySome(cut)), 777)
				x.wantDone(t, x.n, from, due[:cut])
			} else {
				wantErr(t, "Rollback", x.Rollback(x.n, 0, x.onlySome(cut)), 777)
				x.wantDone(t, x.n, from, due[:cut])
				x.to(t, x.n, x.saves[0])
				x.wantDone(t, x.n, from, due)
				x.wantSamePages(t, "To", x.seen[0])
			}
			x.abort(t, x.n)
			x.wantDone(t, x.n, from, due)
			x.wantSamePages(t, "Abort", x.seen[0])
			if x.l.Kept() != 0 {
				t.Error("kept:", x.l.Kept())
			}
		}
	}
}

// 16.2: one that was aborted in part goes on to be aborted; To takes it back, too, and leaves it under way.
func TestToWhileAborting(t *testing.T) {
	x := play(t)
	due, from := x.due(t, x.n, 0), x.l.End()
	wantErr(t, "Abort", x.Abort(x.n, x.onlySome(2)), 777)
	x.to(t, x.n, x.saves[3])
	x.wantSamePages(t, "To", x.seen[3])
	x.to(t, x.n, 0)
	x.wantSamePages(t, "To", x.seen[0])
	if s, is := x.State(x.n); !is || s.State != api.TxAborting || s.Next != 0 {
		t.Errorf("State: %+v, %t", s, is)
	}
	x.abort(t, x.n)
	x.wantDone(t, x.n, from, due)
}

// 16.2, R2: what One can't take back ends it there: what was taken back stays so, and is not taken back again.
func TestEndsAtAnError(t *testing.T) {
	s := planted(t, sheet(9, api.KindHeap, "", "a"))
	n := s.begin(t)
	set := func(new, old string) {
		s.log(t, n, api.Change{Page: 9, Op: api.Op{Kind: api.OpSet, S: new, Old: old}, Undo: api.UndoPage})
	}
	set("b", "a")
	set("c", "b")
	// Somebody who asks for no lock.
	other := s.begin(t)
	s.log(t, other, api.Change{Page: 9, Op: api.Op{Kind: api.OpSet, S: "x", Old: "c"}})
	set("d", "x")
	due, from := s.due(t, n, 0), s.l.End()
	wantErr(t, "To", undo.To(s.Manager, n, 0), api.ErrOld)
	s.wantDone(t, n, from, due[:1])
	s.wantPage(t, sheet(9, api.KindHeap, "", "x"))
	s.wantFails(t, "To", api.ErrOld, func() api.Errno { return undo.To(s.Manager, n, 0) })
	wantErr(t, "Abort", undo.Abort(s.Manager, n), api.ErrOld)
	s.log(t, other, api.Change{Page: 9, Op: api.Op{Kind: api.OpSet, S: "c", Old: "x"}})
	s.abort(t, n)
	s.wantPage(t, sheet(9, api.KindHeap, "", "a"))
}

// heavyRoot is the root of the tree of heavy.
const heavyRoot = 3

// heavy is a store in which a transaction did much, with nested top actions among it, and what the tree must have behind Abort.
func heavy(t *testing.T, frames int) (store, int, []api.Item) {
	t.Helper()
	s := laid(t, room, frames)
	root, first := s.root(t, wides(0, 12)...), s.first(t, "1", "2", "3")
	has := map[api.Entry]bool{}
	for _, en := range wides(0, 12) {
		has[en] = true
	}
	n := s.begin(t)
	for i := range 20 {
		s.insert(t, n, root, wide(20+i*7%20))
		has[wide(20+i)] = false
		if i%4 == 0 {
			s.allocate(t, n)
			s.delete(t, n, root, wide(i/2))
			wantErr(t, "Update", heap.Update(s.Manager, n, api.RID{Page: first, Slot: i % 3}, fmt.Sprint("now ", i)), api.OK)
		}
	}
	if root != heavyRoot {
		t.Fatal("another root:", root)
	}
	return s, n, listed(has)
}

// wantHeavy asks for what is left of heavy.
func (s store) wantHeavy(t *testing.T, want []api.Item) {
	t.Helper()
	taken := s.wantTree(t, heavyRoot, want...)
	l, e := heap.Pages(s.Manager, s.firstOf(t))
	wantErr(t, "Pages", e, api.OK)
	taken = append(append(taken, l...), 1, 2)
	slices.Sort(taken)
	s.wantTaken(t, taken...)
	s.wantRows(t, l[0], rows(l[0], "1", "2", "3")...)
}

// firstOf is the one page of rows that there is.
func (s store) firstOf(t *testing.T) api.Page {
	t.Helper()
	for n := range api.Page(s.d.Room()) {
		if s.get(t, n+1).Kind == api.KindHeap {
			return n + 1
		}
	}
	t.Fatal("no page of rows")
	return 0
}

// T1, T5: the power fails behind each record of an Abort: what stands up goes on behind what was taken back, so that each record is taken back once.
func TestAbortCutOff(t *testing.T) {
	s, n, want := heavy(t, frames)
	due, from := len(s.due(t, n, 0)), s.l.End()
	s.wantAborted(t, n)
	s.wantHeavy(t, want)
	cuts := 0
	for _, x := range append(records(t, s.l, from), placed{at: s.l.End()}) {
		again, undone := risen(t, s.cutLog(t, x.at), frames)
		again.wantHeavy(t, want)
		l := kind(records(t, again.l, from), api.RecCLR)
		if len(l) != due || undone != due-len(kind(records(t, over(t, s.cutLog(t, x.at), frames).l, from), api.RecCLR)) {
			t.Errorf("%d records, of which %d now, for %d", len(l), undone, due)
		}
		cuts++
		if t.Failed() {
			t.Fatal("cut at", x.at)
		}
	}
	if cuts != due+3 {
		t.Error("cuts:", cuts, "due:", due)
	}
}

// T1, T5: likewise behind each record of what was done: what was nested and did not end is taken back with the rest.
func TestDoingCutOff(t *testing.T) {
	s, n, want := heavy(t, frames)
	tops := 0
	for _, x := range append(of(records(t, s.l, 1), n), placed{at: s.l.End()}) {
		again, _ := risen(t, s.cutLog(t, x.at), frames)
		var l []api.Item
		has := again.itemsOf(t, heavyRoot)
		for _, y := range want {
			// Those that were not put in yet are not there.
			if y.Live || slices.ContainsFunc(has, func(z api.Item) bool { return z.Entry == y.Entry }) {
				l = append(l, y)
			}
		}
		again.wantHeavy(t, l)
		if x.r.Kind == api.RecTop {
			tops++
		}
		if t.Failed() {
			t.Fatal("cut at", x.at)
		}
	}
	if tops < 4 {
		t.Error("nested:", tops)
	}
}

// T1, T5: the power fails at each call of the disk while an Abort is under way, in a pool that writes pages early, and again when it stands up: in the end all is taken back.
func TestAbortFalls(t *testing.T) {
	fell := 0
	for fall := range 150 {
		s, n, want := heavy(t, 4)
		wantErr(t, "Flush", s.l.Flush(s.l.End()), api.OK)
		s.p.Picks([]int{fall % 3, 1, 2, 3, 0, fall % 5, 1, 3, 2, 0, 1})
		s.d.Plan([]api.Fall{{At: s.d.Calls() + fall, Keep: uint64(fall) * 0x9e3779b97f4a7c15, Torn: fall % 4, Bytes: 100, Log: fall * 31}})
		e := undo.Abort(s.Manager, n)
		if e != api.OK && e != api.ErrDead {
			t.Fatal("Abort:", e)
		}
		if e == api.ErrDead {
			fell++
		} else {
			s.d.Crash(api.Fall{Log: fall * 17})
		}
		s.d.Plan(nil)
		for i := range 2 {
			s.d.Up()
			again, _ := risen(t, s.d, 4+i)
			again.wantHeavy(t, want)
			again.d.Crash(api.Fall{Keep: uint64(fall), Log: fall * 11})
		}
		if t.Failed() {
			t.Fatal("fall", fall)
		}
	}
	if fell < 50 {
		t.Error("it fell too seldom in the midst:", fell)
	}
}

// 16.2: the power is back, and the same manager goes on: what was taken back is not taken back again.
func TestAbortGoesOn(t *testing.T) {
	cuts := 0
	for fall := range 60 {
		s, n, want := heavy(t, 4)
		due, from := s.due(t, n, 0), s.l.End()
		s.d.Plan([]api.Fall{{At: s.d.Calls() + 2*fall, Log: 1 << 22}})
		if e := undo.Abort(s.Manager, n); e == api.ErrDead {
			cuts++
			s.d.Up()
			s.abort(t, n)
		} else {
			wantErr(t, "Abort", e, api.OK)
		}
		s.wantHeavy(t, want)
		s.wantDone(t, n, from, due)
		if t.Failed() {
			t.Fatal("fall", fall)
		}
	}
	if cuts < 30 {
		t.Error("it fell too seldom in the midst:", cuts)
	}
}

// T4: taking back never lacks room in the log, nor on the disk: To each place and Abort, of some transactions, when both are full.
func TestBackInFullLog(t *testing.T) {
	for i := range len(play(t).saves) {
		x := play(t)
		// Another one with as much to take back.
		other := x.begin(t)
		x.insert(t, other, x.root, wides(50, 70)...)
		for e := api.OK; e == api.OK; {
			_, e = heap.Allocate(x.Manager, other)
		}
		x.fill(t)
		if free := x.l.Room() - x.l.Kept(); free > api.FrameBytes {
			t.Fatal("room is left:", free)
		}
		x.to(t, x.n, x.saves[i])
		x.abort(t, other)
		x.abort(t, x.n)
		x.wantRows(t, x.first, rows(x.first, "one", "two", "three")...)
		l := x.itemsOf(t, x.root)
		for _, y := range l {
			if slot := y.Entry.RID.Slot; y.Live != (slot == 10 || slot == 20 || slot == 30) {
				t.Errorf("%+v", y)
			}
		}
		if len(l) != 24 {
			t.Error("items:", len(l))
		}
	}
}

// T7: a statement that met an error in its midst is taken back to where it began: an entry that was not put in, as the disk is full.
func TestBackOfAnError(t *testing.T) {
	s := laid(t, 12, frames)
	root := s.root(t)
	n := s.begin(t)
	has := map[api.Entry]bool{}
	failed := 0
	for i := range 80 {
		to := s.save(t, n)
		en := wide(i * 31 % 80)
		e := smo.Insert(s.Manager, n, root, en, nil)
		if e == api.OK {
			has[en] = true
			continue
		}
		wantErr(t, "Insert", e, api.ErrSpace)
		failed++
		s.wantBack(t, n, to)
		s.wantTree(t, root, listed(has)...)
	}
	if failed < 10 {
		t.Error("the disk was seldom full:", failed)
	}
	for en := range has {
		has[en] = false
	}
	s.wantAborted(t, n)
	s.wantTree(t, root, listed(has)...)
}
