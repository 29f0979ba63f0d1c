package smo_test

import (
	"slices"
	"testing"

	"girder/api"
	"girder/page"
	"girder/smo"
	"girder/tree"
)

// 14.1: what was put in becomes a ghost, what was taken out live: by a compensation that says where undoing goes on.
func TestUndo(t *testing.T) {
	s := planted(t, innerOf(3, 1, child(8, at("")), child(9, at("m"))), leafOf(8, 9, live(at("a")), ghost(at("b"))), leafOf(9, 0, live(at("m")), ghost(at("n"))))
	n := s.begin(t)
	for _, c := range []struct {
		en    api.Entry
		live  bool // what is taken back
		leaf  api.Page
		place int
		old   bool
		next  api.LSN
	}{
		{at("a"), true, 8, 0, true, 0},
		{at("a"), false, 8, 0, false, 5},
		{at("b"), false, 8, 1, false, 1},
		{at("m"), true, 9, 0, true, 7},
		{at("n"), false, 9, 1, false, 2},
		// One that stands so already is taken back, too.
		{at("m"), true, 9, 0, false, 3},
		{at("n"), false, 9, 1, true, 0},
	} {
		from := s.l.End()
		wantErr(t, "Undo", smo.Undo(s.Manager, n, 3, c.en, c.live, c.next), api.OK)
		l := records(t, s.l, from)
		op := api.Op{Kind: api.OpSet, At: c.place, S: itemBytes(api.Item{Entry: c.en, Live: !c.live}), Old: itemBytes(api.Item{Entry: c.en, Live: c.old})}
		if len(l) != 1 || l[0].r.Kind != api.RecCLR || l[0].r.Tx != n || l[0].r.Page != c.leaf || l[0].r.Next != c.next || l[0].r.Op != op {
			t.Errorf("logged: %v, not %v", l, op)
		}
		if to := s.save(t, n); to != c.next {
			t.Errorf("Save: %d, not %d", to, c.next)
		}
	}
	s.wantWhole(t, 3, live(at("a")), live(at("b")), ghost(at("m")), live(at("n")))
	for _, en := range []api.Entry{at("c"), at(""), entry("a", 0, 1), at("zz")} {
		for _, was := range []bool{false, true} {
			s.wantFails(t, "Undo", api.ErrNone, func() api.Errno { return smo.Undo(s.Manager, n, 3, en, was, 0) })
		}
	}
}

// 14.1: who goes back can take back, also when it is not active any more.
func TestUndoWhileAborting(t *testing.T) {
	s := planted(t, leafOf(3, 0, live(at("a"))))
	n := s.begin(t)
	s.insert(t, n, 3, at("b"))
	s.delete(t, n, 3, at("a"))
	wantErr(t, "Abort", s.Abort(n, func(int, api.Rec) api.Errno { return 777 }), 777)
	s.wantWhole(t, 3, ghost(at("a")), live(at("b")))
	s.abort(t, n)
	s.wantWhole(t, 3, live(at("a")), ghost(at("b")))
	if s.l.Kept() != 0 || len(s.All()) != 0 {
		t.Errorf("kept: %d, under way: %v", s.l.Kept(), s.All())
	}
}

// 14.3, T7: a transaction that goes back wholly: its entries are ghosts, those that it took out are live, and what was cut stays cut.
func TestBackWholly(t *testing.T) {
	s := begun(t)
	lay := s.begin(t)
	root := s.create(t, lay)
	has := items{}
	for i := 0; i < 40; i += 2 {
		s.insert(t, lay, root, wide(i))
		has[wide(i)] = true
	}
	s.commit(t, lay)
	n := s.begin(t)
	for i := 1; i < 80; i += 2 {
		s.insert(t, n, root, wide(i))
		has[wide(i)] = false
	}
	for i := 0; i < 40; i += 3 {
		s.delete(t, n, root, wide(i))
	}
	s.insert(t, n, root, wide(0), wide(3))
	s.delete(t, n, root, wide(3))
	pages := s.pagesOf(t, root)
	s.abort(t, n)
	if is := s.wantWhole(t, root, has.list()...); !slices.Equal(is, pages) {
		t.Errorf("pages: %v, were %v", is, pages)
	}
	if s.l.Kept() != 0 {
		t.Error("kept:", s.l.Kept())
	}
	// Another one cleans: the ghosts go.
	n = s.begin(t)
	g, gone, e := smo.Clean(s.Manager, n, root, all)
	if g != 40 || gone == 0 || e != api.OK {
		t.Error("Clean:", g, gone, e)
	}
	s.commit(t, n)
	for en, is := range has {
		if !is {
			delete(has, en)
		}
	}
	s.wantWhole(t, root, has.list()...)
}

// pagesOf is the pages of a tree that is well formed.
func (s store) pagesOf(t *testing.T, root api.Page) []api.Page {
	t.Helper()
	pages, e := tree.Check(s.p, root)
	wantErr(t, "Check", e, api.OK)
	return pages
}

// itemsOf is the items of a tree.
func (s store) itemsOf(t *testing.T, root api.Page) []api.Item {
	t.Helper()
	l, e := tree.All(s.p, root)
	wantErr(t, "All", e, api.OK)
	return l
}

// 14.3, T7: to a savepoint: what was done behind it goes back, what was nested stays, what was done ahead stays.
func TestBackToSavepoints(t *testing.T) {
	s := begun(t)
	n := s.begin(t)
	root := s.create(t, n)
	has := items{}
	put := func(from, to int) {
		for _, en := range wides(from, to) {
			s.insert(t, n, root, en)
			has[en] = true
		}
	}
	put(0, 10)
	one := s.save(t, n)
	put(10, 30)
	two := s.save(t, n)
	put(30, 50)
	s.delete(t, n, root, wides(5, 15)...)
	pages := s.pagesOf(t, root)

	s.back(t, n, two)
	for _, en := range wides(30, 50) {
		has[en] = false
	}
	s.wantWhole(t, root, has.list()...)
	s.back(t, n, two)
	s.wantWhole(t, root, has.list()...)
	s.back(t, n, one)
	for _, en := range wides(10, 30) {
		has[en] = false
	}
	if is := s.wantWhole(t, root, has.list()...); !slices.Equal(is, pages) {
		t.Errorf("pages: %v, were %v", is, pages)
	}
	// It goes on from there.
	put(20, 25)
	s.wantWhole(t, root, has.list()...)
	s.commit(t, n)
	s.wantWhole(t, root, has.list()...)
}

// 14.1, 14.3: one whose tree is its own lets it go: the root is free, what was nested stays taken.
func TestBackOfCreate(t *testing.T) {
	s := begun(t)
	n := s.begin(t)
	root := s.create(t, n)
	s.insert(t, n, root, wides(0, 7)...)
	s.abort(t, n)
	s.wantPage(t, page.Blank(3), leafOf(4, 5, ghosts(wides(0, 2)...)...), leafOf(5, 0, ghosts(wides(2, 7)...)...))
	s.wantTaken(t, 1, 2, 4, 5)
}

// 14.1: an entry is taken back wherever it stands now: others cut its leaf in two, let the root grow and shrink, let leaves beside it go.
func TestUndoElsewhere(t *testing.T) {
	s := begun(t)
	lay := s.begin(t)
	root := s.create(t, lay)
	s.insert(t, lay, root, wide(50), wide(52))
	s.commit(t, lay)
	a, b := s.begin(t), s.begin(t)
	s.insert(t, a, root, wide(51))
	s.delete(t, a, root, wide(52))
	mine := func(r api.RID) bool { return r.Slot != 51 && r.Slot != 52 }
	has := items{wide(50): true, wide(51): true, wide(52): false}
	for _, i := range []int{1, 99, 2, 98, 3, 97, 4, 96, 5, 95, 49, 53, 48, 54, 47, 55, 40, 60, 41, 61, 42, 62} {
		s.insert(t, b, root, wide(i))
		has[wide(i)] = true
	}
	s.wantWhole(t, root, has.list()...)
	if s.levels(t, root) < 2 {
		t.Fatal("the root did not grow")
	}
	c := s.begin(t)
	s.insert(t, c, root, wide(44))
	s.commit(t, b)
	b = s.begin(t)
	for en := range has {
		if has[en] && mine(en.RID) {
			s.delete(t, b, root, en)
			delete(has, en)
		}
	}
	if _, gone, e := smo.Clean(s.Manager, b, root, mine); gone == 0 || e != api.OK {
		t.Error("Clean:", gone, e)
	}
	has[wide(44)] = true
	s.wantWhole(t, root, has.list()...)
	s.commit(t, b)
	s.abort(t, a)
	has[wide(51)], has[wide(52)] = false, true
	s.wantWhole(t, root, has.list()...)
	s.abort(t, c)
	has[wide(44)] = false
	s.wantWhole(t, root, has.list()...)
}

// 14.3: two at one time, entry by entry: each goes back without the other one's entries.
func TestBackBesideOthers(t *testing.T) {
	s := laid(t, 120, frames, 2)
	lay := s.begin(t)
	root := s.create(t, lay)
	s.commit(t, lay)
	a, b := s.begin(t), s.begin(t)
	has := items{}
	for i := range 90 {
		n := a
		if i%3 == 0 {
			n = b
		}
		en := wide(i * 37 % 90)
		s.insert(t, n, root, en)
		has[en] = n == b
	}
	s.abort(t, a)
	s.wantWhole(t, root, has.list()...)
	s.commit(t, b)
	s.wantWhole(t, root, has.list()...)
}

// 14.1: an entry that is a ghost, of one who went back, is put in again, and taken back again.
func TestGhostAgain(t *testing.T) {
	s := planted(t, leafOf(3, 0, ghost(at("a")), live(at("b"))))
	for range 2 {
		n := s.begin(t)
		s.insert(t, n, 3, at("a"))
		s.wantPage(t, leafOf(3, 0, live(at("a")), live(at("b"))))
		s.wantFails(t, "Insert", api.ErrTwice, func() api.Errno { return smo.Insert(s.Manager, n, 3, at("a"), nil) })
		s.delete(t, n, 3, at("a"))
		s.wantFails(t, "Delete", api.ErrNone, func() api.Errno { return smo.Delete(s.Manager, n, 3, at("a")) })
		s.insert(t, n, 3, at("a"))
		s.abort(t, n)
		s.wantPage(t, leafOf(3, 0, ghost(at("a")), live(at("b"))))
	}
	n := s.begin(t)
	s.insert(t, n, 3, at("a"))
	s.commit(t, n)
	s.wantPage(t, leafOf(3, 0, live(at("a")), live(at("b"))))
	n = s.begin(t)
	s.delete(t, n, 3, at("a"))
	s.abort(t, n)
	s.wantPage(t, leafOf(3, 0, live(at("a")), live(at("b"))))
}
