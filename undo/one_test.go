package undo_test

import (
	"fmt"
	"math"
	"slices"
	"strings"
	"testing"

	"girder/api"
	"girder/heap"
	"girder/node"
	"girder/page"
	"girder/smo"
	"girder/space"
	"girder/tree"
	"girder/txn"
	"girder/undo"
)

// others is records of all kinds but RecUpdate, and of kinds that are none, each with all that a change could have.
func others(r api.Rec) []api.Rec {
	var l []api.Rec
	for _, kind := range []int{math.MinInt, -1, 0, api.RecCLR, api.RecTop, api.RecCommit, api.RecAbort, api.RecEnd, api.RecBegin, api.RecCheck, 9, math.MaxInt} {
		for _, way := range []int{api.UndoNone, api.UndoPage, api.UndoKey, 3} {
			r.Kind, r.Undo = kind, way
			l = append(l, r)
		}
	}
	return l
}

// noWays is RecUpdates that can't be taken back.
func noWays(r api.Rec) []api.Rec {
	var l []api.Rec
	for _, way := range []int{api.UndoNone, math.MinInt, -1, 3, math.MaxInt} {
		r.Kind, r.Undo = api.RecUpdate, way
		l = append(l, r)
	}
	return l
}

// 16.1: a nil manager, with any record, also with one that is ErrUndo else.
func TestOneNil(t *testing.T) {
	r := byPage(5, api.Op{Kind: api.OpInsert, S: "a"})
	l := append(others(r), noWays(r)...)
	l = append(l, r, api.Rec{Kind: api.RecUpdate, Undo: api.UndoKey, Index: 3}, byPage(api.MapPage, api.Op{Kind: api.OpPut}), api.Rec{})
	for _, r := range l {
		for _, n := range []int{-1, 0, 1} {
			wantErr(t, "One", undo.One(nil, n, r), api.ErrArg)
			wantErr(t, "With", undo.With(nil)(n, r), api.ErrArg)
		}
	}
}

// 16.1: records that are no RecUpdate, or have no undo: whatever else is wrong, and nothing changes.
func TestOneOfNoUpdate(t *testing.T) {
	s := planted(t, sheet(5, api.KindHeap, "", "a"), leafOf(3, live(at("k"))))
	n := s.begin(t)
	s.log(t, n, api.Change{Page: 5, Op: api.Op{Kind: api.OpInsert, At: 1, S: "b"}, Undo: api.UndoPage})
	r := byPage(5, api.Op{Kind: api.OpInsert, At: 1, S: "b"})
	r.Tx, r.Index, r.Entry, r.Live = n, 3, at("k"), true
	for _, r := range append(others(r), noWays(r)...) {
		s.wantFails(t, "One", api.ErrUndo, func() api.Errno { return undo.One(s.Manager, n, r) })
		wantErr(t, "One of no transaction", undo.One(s.Manager, 77, r), api.ErrUndo)
		r.Page, r.Index = 0, -1
		wantErr(t, "One of no page", undo.One(s.Manager, n, r), api.ErrUndo)
	}
	s.wantFails(t, "One", api.ErrUndo, func() api.Errno { return undo.One(s.Manager, n, api.Rec{}) })
	// Each of both ways does take back.
	for _, way := range []int{api.UndoPage, api.UndoKey} {
		r.Undo = way
		wantErr(t, "One", undo.One(s.Manager, n, r), api.OK)
	}
	s.wantPage(t, sheet(5, api.KindHeap, "", "a"), leafOf(3, ghost(at("k"))))
}

// wantOne takes a record back, and asks for the one compensation record that it is: whose, of which page, that it leads to Prev.
func (s store) wantOne(t *testing.T, n int, r api.Rec, p api.Page, op api.Op) {
	t.Helper()
	was, _ := s.State(n)
	from := s.l.End()
	wantErr(t, "One", undo.One(s.Manager, n, r), api.OK)
	l := records(t, s.l, from)
	want := api.Rec{Kind: api.RecCLR, Tx: n, Prev: was.Last, Next: r.Prev, Page: p, Op: op}
	if len(l) != 1 || fmt.Sprint(l[0].r) != fmt.Sprint(want) {
		t.Fatalf("logged: %+v, not %+v", l, want)
	}
	if x := s.get(t, p); x.LSN != l[0].at {
		t.Errorf("the page %d has the LSN %d, not %d", p, x.LSN, l[0].at)
	}
	if is, _ := s.State(n); is.State != was.State || is.Last != l[0].at || is.Next != r.Prev {
		t.Errorf("the transaction: %+v, was %+v", is, was)
	}
}

// 16.1: UndoPage: each kind of change is taken back by a compensation that leads to Prev.
func TestOneByPage(t *testing.T) {
	long := sheet(7, api.KindMap, "", "abcdefgh", "b")
	l := append(each(5), there{long, api.Op{Kind: api.OpPut, At: 2, S: "XYZ", Old: "cde"}, api.Op{Kind: api.OpPut, At: 2, S: "cde", Old: "XYZ"}})
	for _, ahead := range []int{0, 1, 2} {
		for _, c := range l {
			s := planted(t, c.x)
			n := s.begin(t)
			for range ahead {
				s.allocate(t, n)
			}
			s.log(t, n, api.Change{Page: c.x.Number, Op: c.op, Undo: api.UndoPage})
			r := s.last(t, n)
			if (ahead == 0) != (r.Prev == 0) {
				t.Error("Prev:", r.Prev)
			}
			s.wantOne(t, n, r, c.x.Number, c.back)
			s.wantPage(t, c.x)
		}
	}
}

// 16.1: what is done is the inverse, though the page was changed elsewhere since.
func TestOneByPageAsItIs(t *testing.T) {
	s := planted(t, sheet(5, api.KindHeap, "head", "a", "b"))
	a, b := s.begin(t), s.begin(t)
	s.log(t, a, api.Change{Page: 5, Op: api.Op{Kind: api.OpSet, At: 1, S: "bb", Old: "b"}, Undo: api.UndoPage})
	r := s.last(t, a)
	s.log(t, b, api.Change{Page: 5, Op: api.Op{Kind: api.OpSet, At: 0, S: "aa", Old: "a"}, Undo: api.UndoPage})
	s.log(t, b, api.Change{Page: 5, Op: api.Op{Kind: api.OpHead, S: "other", Old: "head"}, Undo: api.UndoPage})
	s.wantOne(t, a, r, 5, api.Op{Kind: api.OpSet, At: 1, S: "b", Old: "bb"})
	s.wantPage(t, sheet(5, api.KindHeap, "other", "aa", "b"))
}

// 16.1, the chapter's example: a bit of the map that was set is cleared; another one of the same byte that was set since stays; and so on for bits that were cleared.
func TestOneOfTheMap(t *testing.T) {
	s := begun(t)
	a, b := s.begin(t), s.begin(t)
	if p := s.allocate(t, a); p != 3 {
		t.Fatal("Allocate:", p)
	}
	set := s.last(t, a)
	if p := s.allocate(t, b); p != 4 {
		t.Fatal("Allocate:", p)
	}
	s.wantTaken(t, 1, 2, 3, 4)
	s.wantOne(t, a, set, api.MapPage, api.Op{Kind: api.OpPut, S: "\x0b", Old: "\x0f"})
	s.wantTaken(t, 1, 2, 4)

	// Both ways: what was cleared is set, beside what was cleared and set since.
	wantErr(t, "Release", heap.Release(s.Manager, a, 2), api.OK)
	cleared := s.last(t, a)
	wantErr(t, "Release", heap.Release(s.Manager, b, 4), api.OK)
	for range 2 {
		s.log(t, b, api.Change{Page: api.MapPage, Op: s.claim(t, 8), Undo: api.UndoPage})
		wantErr(t, "Release", heap.Release(s.Manager, b, 8), api.OK)
	}
	s.log(t, b, api.Change{Page: api.MapPage, Op: s.claim(t, 7), Undo: api.UndoPage})
	s.wantTaken(t, 1, 7)
	s.wantOne(t, a, cleared, api.MapPage, api.Op{Kind: api.OpPut, S: "\x43", Old: "\x41"})
	s.wantTaken(t, 1, 2, 7)
}

// claim is the change of the map that takes a page.
func (s store) claim(t *testing.T, n api.Page) api.Op {
	t.Helper()
	op, e := space.Claim(s.get(t, api.MapPage), n)
	wantErr(t, "Claim", e, api.OK)
	return op
}

// 16.1: a change of the map that turned no bit over, or several, can't be taken back; one of a page that is no map neither.
func TestOneOfNoBit(t *testing.T) {
	s := begun(t)
	n := s.begin(t)
	for _, c := range []api.Op{
		{Kind: api.OpPut, S: "\x0f", Old: "\x03"},
		{Kind: api.OpPut, S: "\x0f", Old: "\x0f"},
		{Kind: api.OpPut, At: 0, S: "\x1f\x00", Old: "\x0f\x00"},
	} {
		s.log(t, n, api.Change{Page: api.MapPage, Op: c, Undo: api.UndoPage})
		r := s.last(t, n)
		s.wantFails(t, "One", api.ErrUndo, func() api.Errno { return undo.One(s.Manager, n, r) })
		wantErr(t, "One of no transaction", undo.One(s.Manager, 77, r), api.ErrUndo)
		s.wantFails(t, "To", api.ErrUndo, func() api.Errno { return undo.To(s.Manager, n, 0) })
	}
	s = bare(t, room, frames)
	n = s.begin(t)
	r := byPage(api.MapPage, api.Op{Kind: api.OpPut, S: "\x01", Old: "\x00"})
	s.wantFails(t, "One", api.ErrUndo, func() api.Errno { return undo.One(s.Manager, n, r) })
}

// 16.1: the map itself, as it is laid, is taken back by inverses.
func TestOneOfTheMapsLaying(t *testing.T) {
	s := bare(t, room, frames)
	n := s.begin(t)
	ops, _ := space.Fresh(2)
	for _, op := range ops {
		s.log(t, n, api.Change{Page: api.MapPage, Op: op, Undo: api.UndoPage})
	}
	s.allocate(t, n)
	s.abort(t, n)
	s.wantPage(t, page.Blank(api.MapPage))
}

// turn is the change by which an entry that stands at a place of its leaf becomes live or a ghost.
func turn(place int, en api.Entry, toLive bool) api.Op {
	return api.Op{Kind: api.OpSet, At: place, S: itemBytes(api.Item{Entry: en, Live: toLive}), Old: itemBytes(api.Item{Entry: en, Live: !toLive})}
}

// 16.1: UndoKey: what was put in becomes a ghost, what was taken out live, each by a compensation that leads to Prev.
func TestOneByKey(t *testing.T) {
	s := begun(t)
	root := s.root(t, at("b"), at("d"))
	n := s.begin(t)
	s.delete(t, n, root, at("d"))
	s.insert(t, n, root, at("c"))
	s.wantTree(t, root, live(at("b")), live(at("c")), ghost(at("d")))
	s.wantOne(t, n, s.last(t, n), root, turn(1, at("c"), false))
	s.wantTree(t, root, live(at("b")), ghost(at("c")), ghost(at("d")))
	s.wantOne(t, n, s.last(t, n), root, turn(2, at("d"), true))
	s.wantTree(t, root, live(at("b")), ghost(at("c")), live(at("d")))

	// A ghost that was made live again is a ghost again.
	s.insert(t, n, root, at("c"))
	r := s.last(t, n)
	// It stands at another place of its leaf since.
	other := s.begin(t)
	s.insert(t, other, root, at("a"))
	s.wantOne(t, n, r, root, turn(2, at("c"), false))
	s.wantTree(t, root, live(at("a")), live(at("b")), ghost(at("c")), live(at("d")))
}

// 16.1: by the key the change and its page count for nothing; Live does, and one that stands so already is taken back, too.
func TestOneByKeyAlone(t *testing.T) {
	s := begun(t)
	root := s.root(t, at("a"), at("b"))
	n := s.begin(t)
	for _, r := range []api.Rec{
		{Kind: api.RecUpdate, Undo: api.UndoKey, Index: int(root), Entry: at("a"), Live: true},
		{Kind: api.RecUpdate, Undo: api.UndoKey, Index: int(root), Entry: at("a"), Live: true, Page: 9999, Op: api.Op{Kind: 77, At: -1, S: strings.Repeat("x", 9999)}},
		{Kind: api.RecUpdate, Undo: api.UndoKey, Index: int(root), Entry: at("a"), Live: true, Tx: 50, Prev: 4, Next: 3, Page: 1, Op: api.Op{Kind: api.OpPut}},
	} {
		wantErr(t, "One", undo.One(s.Manager, n, r), api.OK)
		s.wantTree(t, root, ghost(at("a")), live(at("b")))
		if to := s.save(t, n); to != r.Prev {
			t.Error("Save:", to)
		}
	}
	wantErr(t, "One", undo.One(s.Manager, n, api.Rec{Kind: api.RecUpdate, Undo: api.UndoKey, Index: int(root), Entry: at("a")}), api.OK)
	s.wantTree(t, root, live(at("a")), live(at("b")))
}

// leafOfEntry is the page in which an entry stands, and where.
func (s store) leafOfEntry(t *testing.T, root api.Page, en api.Entry) (api.Page, int) {
	t.Helper()
	way, e := tree.Path(s.p, root, en)
	wantErr(t, "Path", e, api.OK)
	leaf := way[len(way)-1]
	l, e := node.Leaf(s.get(t, leaf))
	wantErr(t, "Leaf", e, api.OK)
	place, stands := node.Find(l, en)
	if !stands {
		t.Fatalf("%v does not stand there", en)
	}
	return leaf, place
}

// 16.1: UndoKey finds the entry where it stands now, live and as a ghost: others cut its leaf in two, and the root grew, once and again; leaves beside it went, and the root shrank.
func TestOneByKeyElsewhere(t *testing.T) {
	for _, levels := range []int{2, 3} {
		s := begun(t)
		root := s.root(t, wide(500), wide(502))
		n := s.begin(t)
		s.insert(t, n, root, wide(501))
		put := s.last(t, n)
		s.delete(t, n, root, wide(502))
		taken := s.last(t, n)
		if put.Page != root || taken.Page != root {
			t.Fatal("they stand elsewhere:", put.Page, taken.Page)
		}
		b := s.begin(t)
		var more []api.Entry
		for i := 0; s.levels(t, root) < levels; i++ {
			more = append(more, wide(400+i*37%100), wide(600+i*41%100))
			s.insert(t, b, root, more[2*i:]...)
		}
		leaf, place := s.leafOfEntry(t, root, wide(502))
		if leaf == root {
			t.Fatal("it stands where it stood")
		}
		s.wantOne(t, n, taken, leaf, turn(place, wide(502), true))
		// The other one shrinks the tree again.
		s.delete(t, b, root, more...)
		mine := func(r api.RID) bool { return r.Slot < 500 || r.Slot > 502 }
		if _, gone, e := smo.Clean(s.Manager, b, root, mine); gone == 0 || e != api.OK {
			t.Error("Clean:", gone, e)
		}
		leaf, place = s.leafOfEntry(t, root, wide(501))
		s.wantOne(t, n, put, leaf, turn(place, wide(501), false))
		s.wantTree(t, root, live(wide(500)), ghost(wide(501)), live(wide(502)))
	}
}

// 16.1: the compensation is that of who takes back; one that is aborted may, too.
func TestOneWho(t *testing.T) {
	s := planted(t, sheet(5, api.KindHeap, "", "a"))
	a, b := s.begin(t), s.begin(t)
	s.log(t, a, api.Change{Page: 5, Op: api.Op{Kind: api.OpInsert, At: 1, S: "b"}, Undo: api.UndoPage})
	r := s.last(t, a)
	s.wantOne(t, b, r, 5, api.Op{Kind: api.OpRemove, At: 1, Old: "b"})
	s.log(t, a, api.Change{Page: 5, Op: api.Op{Kind: api.OpSet, S: "c", Old: "a"}, Undo: api.UndoPage})
	wantErr(t, "Abort", s.Abort(a, func(int, api.Rec) api.Errno { return 777 }), 777)
	s.wantOne(t, a, s.last(t, a), 5, api.Op{Kind: api.OpSet, S: "a", Old: "c"})
}

// 16.1: a transaction that is none, behind all that is wrong with the page and the entry.
func TestOneOfNoTransaction(t *testing.T) {
	s := planted(t, sheet(5, api.KindHeap, "", "a"), leafOf(3, live(at("k"))))
	ended := s.begin(t)
	s.commit(t, ended)
	for _, n := range []int{math.MinInt, -1, 0, ended, s.Coming(), 1 << 31, math.MaxInt} {
		for _, r := range []api.Rec{
			byPage(5, api.Op{Kind: api.OpInsert, S: "a"}),
			byPage(api.MapPage, api.Op{Kind: api.OpPut, S: "\x03", Old: "\x01"}),
			{Kind: api.RecUpdate, Undo: api.UndoKey, Index: 3, Entry: at("k"), Live: true},
		} {
			s.wantFails(t, "One", api.ErrTx, func() api.Errno { return undo.One(s.Manager, n, r) })
		}
		wantErr(t, "One", undo.One(s.Manager, n, byPage(0, api.Op{Kind: api.OpInsert})), api.ErrArg)
		wantErr(t, "One", undo.One(s.Manager, n, api.Rec{Kind: api.RecUpdate, Undo: api.UndoKey, Index: 3, Entry: at("x")}), api.ErrNone)
	}
}

// 16.1: the errors of the layers below, of changes of a page.
func TestOneByPageErrors(t *testing.T) {
	full := sheet(6, api.KindHeap, "", strings.Repeat("x", 400), strings.Repeat("y", 70))
	many := sheet(7, api.KindHeap, "")
	many.Slots = slices.Repeat([]string{""}, api.MaxSlots)
	s := planted(t, sheet(5, api.KindHeap, "head", "a"), full, many)
	n := s.begin(t)
	for _, c := range []struct {
		r    api.Rec
		want api.Errno
	}{
		// pool: no page; the disk: no room for it.
		{byPage(0, api.Op{Kind: api.OpInsert, S: "a"}), api.ErrArg},
		{byPage(api.MaxPages+1, api.Op{Kind: api.OpInsert, S: "a"}), api.ErrArg},
		{byPage(math.MaxUint32, api.Op{Kind: api.OpInsert, S: "a"}), api.ErrArg},
		{byPage(room+1, api.Op{Kind: api.OpInsert, S: "a"}), api.ErrSpace},
		// rec: no change.
		{byPage(5, api.Op{Kind: 0}), api.ErrRec},
		{byPage(5, api.Op{Kind: api.OpInsert, At: -1, S: "a"}), api.ErrRec},
		{byPage(5, api.Op{Kind: api.OpSet, S: strings.Repeat("x", 513)}), api.ErrRec},
		// page: no such slot, something else, no room, too many.
		{byPage(5, api.Op{Kind: api.OpInsert, At: 1, S: "a"}), api.ErrArg},
		{byPage(5, api.Op{Kind: api.OpInsert, S: "b"}), api.ErrOld},
		{byPage(5, api.Op{Kind: api.OpSet, S: "b", Old: "c"}), api.ErrOld},
		{byPage(5, api.Op{Kind: api.OpSet, At: 3, S: "b", Old: "c"}), api.ErrArg},
		{byPage(5, api.Op{Kind: api.OpHead, S: "h", Old: "head"}), api.ErrOld},
		{byPage(5, api.Op{Kind: api.OpPut, S: "b", Old: "a"}), api.ErrOld},
		{byPage(5, api.Op{Kind: api.OpTurn, S: "\x02head", Old: "\x03"}), api.ErrArg},
		{byPage(6, api.Op{Kind: api.OpRemove, Old: "12345678901"}), api.ErrFull},
		{byPage(7, api.Op{Kind: api.OpRemove, Old: ""}), api.ErrMany},
	} {
		s.wantFails(t, fmt.Sprintf("One of %+v", c.r.Op), c.want, func() api.Errno { return undo.One(s.Manager, n, c.r) })
	}
}

// 16.1: the errors of the layers below, of entries. An Index that is no page's number is none, whichever page's bytes it has.
func TestOneByKeyErrors(t *testing.T) {
	s := planted(t, leafOf(3, live(at("k"))), sheet(4, api.KindHeap, "\x00\x00\x00\x00"), sheet(5, api.KindInner, "\x01"))
	n := s.begin(t)
	for _, c := range []struct {
		index int
		en    api.Entry
		want  api.Errno
	}{
		{3, at(""), api.ErrNone},
		{3, at("j"), api.ErrNone},
		{3, entry("k", 0, 1), api.ErrNone},
		{3, entry("k", 1, 0), api.ErrNone},
		{3, entry("k", 0, 1<<16), api.ErrNone},
		{3, at(strings.Repeat("k", 65)), api.ErrNone},
		{4, at("k"), api.ErrNode},
		{5, at("k"), api.ErrNode},
		{6, at("k"), api.ErrNode},
		{1, at("k"), api.ErrNode},
		{room + 1, at("k"), api.ErrSpace},
		{0, at("k"), api.ErrArg},
		{-1, at("k"), api.ErrArg},
		{api.MaxPages + 1, at("k"), api.ErrArg},
		{1<<32 + 3, at("k"), api.ErrArg},
		{3 - 1<<32, at("k"), api.ErrArg},
		{math.MaxInt, at("k"), api.ErrArg},
		{math.MinInt, at("k"), api.ErrArg},
	} {
		for _, was := range []bool{true, false} {
			r := api.Rec{Kind: api.RecUpdate, Undo: api.UndoKey, Index: c.index, Entry: c.en, Live: was}
			s.wantFails(t, fmt.Sprintf("One of %+v", c), c.want, func() api.Errno { return undo.One(s.Manager, n, r) })
		}
	}
	wantErr(t, "One", undo.One(s.Manager, n, api.Rec{Kind: api.RecUpdate, Undo: api.UndoKey, Index: 3, Entry: at("k"), Live: true}), api.OK)
}

// 16.1: the root may be the last page that there can be.
func TestOneLastRoot(t *testing.T) {
	s := laid(t, api.MaxPages, frames)
	wantErr(t, "Put", s.p.Put(leafOf(api.MaxPages, live(at("k")))), api.OK)
	n := s.begin(t)
	r := api.Rec{Kind: api.RecUpdate, Undo: api.UndoKey, Index: api.MaxPages, Entry: at("k"), Live: true}
	s.wantOne(t, n, r, api.MaxPages, turn(0, at("k"), false))
}

// 16.1: a disk that is dead, pages that can't be read, a log that is full.
func TestOneOfTheOuterWorld(t *testing.T) {
	byKey := api.Rec{Kind: api.RecUpdate, Undo: api.UndoKey, Index: 3, Entry: at("k"), Live: true}
	put := byPage(5, api.Op{Kind: api.OpInsert, S: "a"})
	lay := func() (store, int) {
		s := planted(t, sheet(5, api.KindHeap, "", "a"), leafOf(3, live(at("k"))))
		wantErr(t, "WriteAll", s.p.WriteAll(), api.OK)
		for n := range api.Page(room) {
			s.p.Drop(n + 1)
		}
		return s, s.begin(t)
	}
	for _, r := range []api.Rec{byKey, put, byPage(api.MapPage, api.Op{Kind: api.OpPut, S: "\x03", Old: "\x01"})} {
		s, n := lay()
		s.d.Crash(api.Fall{})
		end := s.l.End()
		wantErr(t, "One", undo.One(s.Manager, n, r), api.ErrDead)
		if s.l.End() != end {
			t.Error("something was logged")
		}
		s.d.Up()
		wantErr(t, "One", undo.One(s.Manager, n, r), api.OK)

		// Nothing was kept for who was found by a restart, and there is no room.
		s, n = lay()
		wantErr(t, "Abort", undo.Abort(s.Manager, n), api.OK)
		wantErr(t, "Load", s.Load([]api.TxState{{Tx: 7, State: api.TxAborting}}, 8), api.OK)
		s.fill(t)
		s.wantFails(t, "One", api.ErrLog, func() api.Errno { return undo.One(s.Manager, 7, r) })
	}
	for _, p := range []api.Page{3, 5} {
		s, n := lay()
		for _, at := range []api.Page{p, p + api.MaxPages} {
			wantErr(t, "Write", s.d.Write(at, strings.Repeat("x", api.PageBytes)), api.OK)
		}
		want := map[api.Page]api.Errno{p: api.ErrCorrupt}
		wantErr(t, "One", undo.One(s.Manager, n, byKey), want[3])
		wantErr(t, "One", undo.One(s.Manager, n, put), want[5])
	}
}

// R1: a manager that New did not make.
func TestOneOfAnEmptyManager(t *testing.T) {
	m := &txn.Manager{}
	wantErr(t, "One", undo.One(m, 1, byPage(5, api.Op{Kind: api.OpInsert})), api.ErrArg)
	wantErr(t, "One", undo.One(m, 1, api.Rec{Kind: api.RecUpdate, Undo: api.UndoKey, Index: 3}), api.ErrArg)
	wantErr(t, "To", undo.To(m, 1, 0), api.ErrTx)
	wantErr(t, "Abort", undo.Abort(m, 1), api.ErrTx)
}
