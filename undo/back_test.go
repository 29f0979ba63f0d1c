package undo_test

import (
	"fmt"
	"math"
	"slices"
	"testing"

	"girder/api"
	"girder/heap"
	"girder/page"
	"girder/smo"
	"girder/tree"
	"girder/undo"
)

// due is what must be taken back when a transaction goes back to a place, the last one first: by the words of chapter 9.
func (s store) due(t *testing.T, n int, to api.LSN) []placed {
	t.Helper()
	at := map[api.LSN]api.Rec{}
	for _, x := range records(t, s.l, 1) {
		at[x.at] = x.r
	}
	state, _ := s.State(n)
	var l []placed
	for next := state.Next; next > to; {
		r := at[next]
		switch {
		case r.Kind == api.RecCLR || r.Kind == api.RecTop:
			next = r.Next
		case r.Kind == api.RecUpdate && r.Undo != api.UndoNone:
			l = append(l, placed{next, r})
			next = r.Prev
		default:
			next = r.Prev
		}
	}
	return l
}

// wantDone asks that of a transaction just these records were taken back from a place of the log on, in this order, each once, and that nobody else did anything.
func (s store) wantDone(t *testing.T, n int, from api.LSN, due []placed) {
	t.Helper()
	l := records(t, s.l, from)
	if len(of(l, n)) != len(l) {
		t.Errorf("others did something: %v", l)
	}
	l = slices.DeleteFunc(l, func(x placed) bool { return x.r.Kind == api.RecAbort || x.r.Kind == api.RecEnd })
	if len(l) != len(due) {
		t.Fatalf("%d records for %d that were to be taken back", len(l), len(due))
	}
	for i, x := range l {
		r := due[i].r
		if x.r.Kind != api.RecCLR || x.r.Next != r.Prev {
			t.Errorf("%d: %+v does not take back %+v", i, x.r, r)
		}
		if r.Undo == api.UndoPage && x.r.Page != r.Page || r.Undo == api.UndoKey && x.r.Op.S != itemBytes(api.Item{Entry: r.Entry, Live: !r.Live}) {
			t.Errorf("%d: %+v does not take back %+v", i, x.r, r)
		}
	}
}

// wantBack goes back to a place, and asks for the records of that.
func (s store) wantBack(t *testing.T, n int, to api.LSN) {
	t.Helper()
	due, from := s.due(t, n, to), s.l.End()
	s.to(t, n, to)
	s.wantDone(t, n, from, due)
	if is := s.save(t, n); is > to {
		t.Errorf("Save: %d, behind %d", is, to)
	}
}

// wantAborted aborts, and asks for the records of that.
func (s store) wantAborted(t *testing.T, n int) {
	t.Helper()
	due, from := s.due(t, n, 0), s.l.End()
	s.abort(t, n)
	s.wantDone(t, n, from, due)
	l := records(t, s.l, from)
	if l[0].r.Kind != api.RecAbort || l[len(l)-1].r.Kind != api.RecEnd {
		t.Errorf("Abort: %v", l)
	}
	if _, is := s.State(n); is {
		t.Error("it is under way")
	}
}

// 16.2: With is One, as Rollback and Abort take it, of just that manager.
func TestWith(t *testing.T) {
	a, b := planted(t, sheet(5, api.KindHeap, "", "a")), planted(t, sheet(5, api.KindHeap, "", "a"))
	change := api.Change{Page: 5, Op: api.Op{Kind: api.OpInsert, S: "new"}, Undo: api.UndoPage}
	n, other := a.begin(t), b.begin(t)
	with := undo.With(a.Manager)
	to := a.log(t, n, change)
	a.log(t, n, change)
	b.log(t, other, change)
	a.log(t, n, api.Change{Page: api.MapPage, Op: a.claim(t, 9), Undo: api.UndoPage})
	wantErr(t, "Rollback", a.Rollback(n, to, with), api.OK)
	a.wantPage(t, sheet(5, api.KindHeap, "", "new", "a"))
	a.wantTaken(t, 1, 2)
	b.wantPage(t, sheet(5, api.KindHeap, "", "new", "a"))
	wantErr(t, "Abort", a.Abort(n, with), api.OK)
	a.wantPage(t, sheet(5, api.KindHeap, "", "a"))
	b.wantPage(t, sheet(5, api.KindHeap, "", "new", "a"))

	// It may be called by itself, again and again, and tells what One tells.
	n = a.begin(t)
	a.log(t, n, change)
	wantErr(t, "With", with(n, a.last(t, n)), api.OK)
	a.wantPage(t, sheet(5, api.KindHeap, "", "a"))
	// Whose compensation it is, the one who calls says.
	a.log(t, n, change)
	r, who, from := a.last(t, n), a.begin(t), a.l.End()
	wantErr(t, "With", with(who, r), api.OK)
	if l := records(t, a.l, from); len(l) != 1 || l[0].r.Tx != who {
		t.Errorf("logged: %v, not of %d", l, who)
	}
	wantErr(t, "With", with(n, api.Rec{}), api.ErrUndo)
	wantErr(t, "With", with(77, byPage(5, api.Op{Kind: api.OpInsert, S: "a"})), api.ErrTx)
	wantErr(t, "With", with(n, byPage(0, api.Op{Kind: api.OpInsert, S: "a"})), api.ErrArg)
}

// 16.2: a nil manager, and transactions that are none.
func TestBackOfNobody(t *testing.T) {
	for _, n := range []int{-1, 0, 1} {
		for _, to := range []api.LSN{0, 1, math.MaxUint64} {
			wantErr(t, "To", undo.To(nil, n, to), api.ErrArg)
		}
		wantErr(t, "Abort", undo.Abort(nil, n), api.ErrArg)
		if undo.With(nil) == nil {
			t.Error("With is nil")
		}
	}
	s := begun(t)
	n := s.begin(t)
	s.commit(t, n)
	for _, n := range []int{math.MinInt, -1, 0, n, s.Coming(), math.MaxInt} {
		for _, to := range []api.LSN{0, 1, math.MaxUint64} {
			s.wantFails(t, "To", api.ErrTx, func() api.Errno { return undo.To(s.Manager, n, to) })
		}
		s.wantFails(t, "Abort", api.ErrTx, func() api.Errno { return undo.Abort(s.Manager, n) })
	}
	// One that committed ahead of a crash stays so.
	wantErr(t, "Load", s.Load([]api.TxState{{Tx: 9, State: api.TxCommitted}}, 10), api.OK)
	s.wantFails(t, "Abort", api.ErrState, func() api.Errno { return undo.Abort(s.Manager, 9) })
}

// points is a transaction that did something of each kind, with a place behind each, and what the pages were there.
type points struct {
	store
	n           int
	root, first api.Page
	saves       []api.LSN
	seen        []seen
}

// play does something of each kind, in one transaction, and looks behind each.
func play(t *testing.T) *points {
	t.Helper()
	s := begun(t)
	x := &points{store: s, root: s.root(t, wide(10), wide(15), wide(20), wide(30)), first: s.first(t, "one", "two", "three")}
	// A ghost, so that all is just as it was when it is one again.
	x.n = s.begin(t)
	s.delete(t, x.n, x.root, wide(15))
	s.commit(t, x.n)
	x.n = s.begin(t)
	at := func(slot int) api.RID { return api.RID{Page: x.first, Slot: slot} }
	for _, do := range []func(){
		func() {},
		func() { wantErr(t, "Update", heap.Update(s.Manager, x.n, at(0), "another one"), api.OK) },
		func() { s.allocate(t, x.n) },
		func() { s.insert(t, x.n, x.root, wide(15)) },
		func() { wantErr(t, "Delete", heap.Delete(s.Manager, x.n, at(1)), api.OK) },
		func() { s.delete(t, x.n, x.root, wide(20)) },
		func() { wantErr(t, "Release", heap.Release(s.Manager, x.n, 2), api.OK) },
		func() { s.put(t, x.n, at(1), "in its place") },
		func() { s.insert(t, x.n, x.root, wide(20)) },
		func() { s.delete(t, x.n, x.root, wide(15)) },
		func() { wantErr(t, "Update", heap.Update(s.Manager, x.n, at(0), ""), api.OK) },
		func() { s.allocate(t, x.n) },
		func() {
			_, e := heap.Create(s.Manager, x.n)
			wantErr(t, "Create", e, api.OK)
		},
		func() {
			_, e := smo.Create(s.Manager, x.n)
			wantErr(t, "Create", e, api.OK)
		},
	} {
		do()
		x.saves = append(x.saves, s.save(t, x.n))
		x.seen = append(x.seen, s.look(t))
	}
	return x
}

// 16.2, 16.3: To each place of a transaction: all that was done behind it is taken back, what was done ahead stays; and from there to each place ahead, and wholly.
func TestToEachPlace(t *testing.T) {
	many := len(play(t).saves)
	for i := range many {
		for j := range i + 1 {
			x := play(t)
			x.wantBack(t, x.n, x.saves[i])
			x.wantSamePages(t, "To", x.seen[i])
			x.wantBack(t, x.n, x.saves[j])
			x.wantSamePages(t, "To once more", x.seen[j])
			x.wantAborted(t, x.n)
			x.wantSamePages(t, "Abort", x.seen[0])
			if x.l.Kept() != 0 {
				t.Error("kept:", x.l.Kept())
			}
			if t.Failed() {
				t.Fatal("to", i, "and", j)
			}
		}
	}
}

// 16.2: To places where no record begins: just what is behind them is taken back; to the end and beyond: nothing.
func TestToAnyPlace(t *testing.T) {
	x := play(t)
	for i := len(x.saves) - 1; i > 0; i-- {
		for _, to := range []api.LSN{math.MaxUint64, x.l.End(), x.l.End() - 1, x.saves[i] + 1, x.saves[i]} {
			x.wantFails(t, "To", api.OK, func() api.Errno { return undo.To(x.Manager, x.n, to) })
		}
		x.to(t, x.n, x.saves[i-1]+1)
		x.wantSamePages(t, "To", x.seen[i-1])
	}
	x.to(t, x.n, 0)
	x.wantSamePages(t, "To", x.seen[0])
	x.wantFails(t, "To", api.OK, func() api.Errno { return undo.To(x.Manager, x.n, 0) })
}

// 16.2: who went back goes on: what it does then is taken back by itself.
func TestToAndOn(t *testing.T) {
	x := play(t)
	x.wantBack(t, x.n, x.saves[4])
	x.insert(t, x.n, x.root, wide(16))
	to := x.save(t, x.n)
	was := x.look(t)
	x.allocate(t, x.n)
	x.delete(t, x.n, x.root, wide(30), wide(16))
	x.wantBack(t, x.n, to)
	x.wantSamePages(t, "To", was)
	x.wantBack(t, x.n, x.saves[2])
	x.wantTree(t, x.root, live(wide(10)), ghost(wide(15)), ghost(wide(16)), live(wide(20)), live(wide(30)))
	x.commit(t, x.n)
	x.wantTaken(t, 1, 2, 3, 4, 5)
	x.wantRows(t, x.first, api.Stored{RID: api.RID{Page: 4}, Row: "another one"}, api.Stored{RID: api.RID{Page: 4, Slot: 1}, Row: "two"}, api.Stored{RID: api.RID{Page: 4, Slot: 2}, Row: "three"})
}

// rows is rows from the front of a page on.
func rows(first api.Page, l ...string) []api.Stored {
	var all []api.Stored
	for i, row := range l {
		all = append(all, api.Stored{RID: api.RID{Page: first, Slot: i}, Row: row})
	}
	return all
}

// 16.2, 16.3: Abort of one who did all of it, with nested top actions among them: rows, entries and bits are as they were; what was nested stays.
func TestAbort(t *testing.T) {
	s := begun(t)
	root, first := s.root(t, wides(0, 5)...), s.first(t, "1", "2", "3", "4", "5", "6")
	n := s.begin(t)
	for i := range 30 {
		s.insert(t, n, root, wide(100+i))
		if i%7 == 0 {
			wantErr(t, "Extend", heap.Extend(s.Manager, n, first), api.OK)
			wantErr(t, "Update", heap.Update(s.Manager, n, api.RID{Page: first, Slot: i % 6}, fmt.Sprint(i)), api.OK)
			s.allocate(t, n)
		}
		r, is, e := heap.Place(s.Manager, first, func(api.RID) bool { return true })
		if !is || e != api.OK {
			t.Fatal("Place:", is, e)
		}
		s.put(t, n, r, "put")
	}
	s.delete(t, n, root, wides(0, 5)...)
	wantErr(t, "Delete", heap.Delete(s.Manager, n, api.RID{Page: first, Slot: 2}), api.OK)
	was, _ := tree.Check(s.p, root)
	pages, _ := heap.Pages(s.Manager, first)
	if tops := kind(records(t, s.l, 1), api.RecTop); len(tops) < 10 || len(pages) != 6 {
		t.Fatal("too little was nested:", len(tops), pages)
	}
	s.wantAborted(t, n)
	want := []api.Item{}
	for _, en := range wides(0, 5) {
		want = append(want, live(en))
	}
	for _, en := range wides(100, 130) {
		want = append(want, ghost(en))
	}
	is := s.wantTree(t, root, want...)
	if !slices.Equal(is, was) {
		t.Errorf("pages: %v, were %v", is, was)
	}
	if l, e := heap.Pages(s.Manager, first); !slices.Equal(l, pages) || e != api.OK {
		t.Errorf("pages: %v, were %v", l, pages)
	}
	s.wantRows(t, first, rows(first, "1", "2", "3", "4", "5", "6")...)
	taken := append(append([]api.Page{1, 2}, is...), pages...)
	slices.Sort(taken)
	s.wantTaken(t, taken...)
}

// 16.2: a nested top action that did not end is taken back; one that ended stays, and what was done behind and ahead of it goes.
func TestAbortInTheMidstOfNested(t *testing.T) {
	for _, ended := range []bool{false, true} {
		s := planted(t, sheet(9, api.KindHeap, "", "a"))
		n := s.begin(t)
		set := func(s, old string) api.Change {
			return api.Change{Page: 9, Op: api.Op{Kind: api.OpSet, S: s, Old: old}, Undo: api.UndoPage}
		}
		s.allocate(t, n)
		to := s.save(t, n)
		s.log(t, n, api.Change{Page: 9, Op: api.Op{Kind: api.OpInsert, At: 1, S: "new"}, Undo: api.UndoPage})
		s.allocate(t, n)
		if ended {
			_, e := s.Top(n, to)
			wantErr(t, "Top", e, api.OK)
		}
		s.log(t, n, set("b", "a"))
		s.log(t, n, set("c", "b"))
		s.allocate(t, n)
		s.wantAborted(t, n)
		if ended {
			s.wantPage(t, sheet(9, api.KindHeap, "", "a", "new"))
			s.wantTaken(t, 1, 2, 4)
		} else {
			s.wantPage(t, sheet(9, api.KindHeap, "", "a"))
			s.wantTaken(t, 1, 2)
		}
	}
}

// 16.2: one that did nothing; one whose changes have no undo.
func TestAbortOfNothing(t *testing.T) {
	s := planted(t, sheet(9, api.KindHeap, "", "a"))
	n := s.begin(t)
	was := s.look(t)
	s.wantAborted(t, n)
	s.wantSamePages(t, "Abort", was)
	n = s.begin(t)
	s.log(t, n, api.Change{Page: 9, Op: api.Op{Kind: api.OpInsert, S: "new"}})
	s.wantBack(t, n, 0)
	s.wantAborted(t, n)
	s.wantPage(t, sheet(9, api.KindHeap, "", "new", "a"))
}

// 16.2: one whose table and tree are its own lets them go.
func TestAbortOfCreate(t *testing.T) {
	s := begun(t)
	n := s.begin(t)
	root, e := smo.Create(s.Manager, n)
	wantErr(t, "Create", e, api.OK)
	s.insert(t, n, root, at("a"), at("b"))
	first, e := heap.Create(s.Manager, n)
	wantErr(t, "Create", e, api.OK)
	s.put(t, n, api.RID{Page: first}, "row")
	s.wantTaken(t, 1, 2, 3, 4)
	s.wantAborted(t, n)
	s.wantTaken(t, 1, 2)
	s.wantPage(t, page.Blank(root), page.Blank(first))
}
