package smo_test

import (
	"slices"
	"testing"

	"girder/api"
	"girder/smo"
	"girder/space"
	"girder/tree"
)

// 14.2: a root that is a leaf: without items, without ghosts, with some, with ghosts alone.
func TestCleanLeaf(t *testing.T) {
	for _, c := range []struct {
		was  []api.Item
		free func(api.RID) bool
		want []api.Item
	}{
		{nil, all, nil},
		{lives(wides(0, 5)...), all, lives(wides(0, 5)...)},
		{[]api.Item{live(wide(0)), ghost(wide(1)), live(wide(2)), ghost(wide(3))}, all, lives(wide(0), wide(2))},
		{[]api.Item{live(wide(0)), ghost(wide(1)), live(wide(2)), ghost(wide(3))}, none, []api.Item{live(wide(0)), ghost(wide(1)), live(wide(2)), ghost(wide(3))}},
		{[]api.Item{live(wide(0)), ghost(wide(1)), live(wide(2)), ghost(wide(3))}, only(0, 3), []api.Item{live(wide(0)), ghost(wide(1)), live(wide(2))}},
		{[]api.Item{ghost(wide(0)), ghost(wide(1)), ghost(wide(2))}, only(0, 2), []api.Item{ghost(wide(1))}},
		{ghosts(wides(0, 6)...), all, nil},
	} {
		s := planted(t, leafOf(3, 0, c.was...))
		n := s.begin(t)
		s.wantClean(t, n, 3, c.free, len(c.was)-len(c.want), 0)
		s.wantPage(t, leafOf(3, 0, c.want...))
		s.wantTaken(t, 1, 2, 3)
		s.abort(t, n)
		s.wantPage(t, leafOf(3, 0, c.want...))
	}
}

// grove is a tree of three levels with two leaves below each of three inner pages, and two ghosts in each leaf: leaf i has wide(10 i + 1) and wide(10 i + 2).
func grove(t *testing.T, livesAt ...int) store {
	t.Helper()
	leaf := func(n, next api.Page, i int) api.Sheet {
		l := ghosts(wide(10*i+1), wide(10*i+2))
		if slices.Contains(livesAt, i) {
			l[1].Live = true
		}
		return leafOf(n, next, l...)
	}
	return planted(t,
		innerOf(3, 2, child(10, at("")), child(11, wide(20)), child(12, wide(40))),
		innerOf(10, 1, child(20, at("")), child(21, wide(10))),
		innerOf(11, 1, child(22, at("")), child(23, wide(30))),
		innerOf(12, 1, child(24, at("")), child(25, wide(50))),
		leaf(20, 21, 0), leaf(21, 22, 1), leaf(22, 23, 2), leaf(23, 24, 3), leaf(24, 25, 4), leaf(25, 0, 5),
	)
}

// 14.2: which leaves and parents go, what is linked to what, where children begin then, and which pages are free again.
func TestCleanLeavesGo(t *testing.T) {
	one := func(n, next api.Page, i int) api.Sheet { return leafOf(n, next, live(wide(10*i+2))) }
	for _, c := range []struct {
		live  []int // the leaves that have one entry left
		pages int   // how many go
		want  []api.Sheet
		taken []api.Page
	}{
		{[]int{0, 1, 2, 3, 4, 5}, 0, []api.Sheet{
			innerOf(3, 2, child(10, at("")), child(11, wide(20)), child(12, wide(40))),
			one(20, 21, 0), one(21, 22, 1), one(22, 23, 2), one(23, 24, 3), one(24, 25, 4), one(25, 0, 5)},
			[]api.Page{1, 2, 3, 10, 11, 12, 20, 21, 22, 23, 24, 25}},
		// The first leaf: nothing is ahead of it, and the next one is a first child.
		{[]int{1, 2, 3, 4, 5}, 1, []api.Sheet{
			innerOf(3, 2, child(10, at("")), child(11, wide(20)), child(12, wide(40))),
			innerOf(10, 1, child(21, at(""))), one(21, 22, 1)},
			[]api.Page{1, 2, 3, 10, 11, 12, 21, 22, 23, 24, 25}},
		// A second child.
		{[]int{0, 2, 3, 4, 5}, 1, []api.Sheet{innerOf(10, 1, child(20, at(""))), one(20, 22, 0), one(22, 23, 2)},
			[]api.Page{1, 2, 3, 10, 11, 12, 20, 22, 23, 24, 25}},
		// A first child in the midst: the one ahead stands below another parent.
		{[]int{0, 1, 3, 4, 5}, 1, []api.Sheet{innerOf(11, 1, child(23, at(""))), one(21, 23, 1), one(23, 24, 3)},
			[]api.Page{1, 2, 3, 10, 11, 12, 20, 21, 23, 24, 25}},
		// The last leaf.
		{[]int{0, 1, 2, 3, 4}, 1, []api.Sheet{innerOf(12, 1, child(24, at(""))), one(24, 0, 4)},
			[]api.Page{1, 2, 3, 10, 11, 12, 20, 21, 22, 23, 24}},
		// A parent goes: the first one, one in the midst, the last one.
		{[]int{2, 3, 4, 5}, 3, []api.Sheet{innerOf(3, 2, child(11, at("")), child(12, wide(40))), one(22, 23, 2)},
			[]api.Page{1, 2, 3, 11, 12, 22, 23, 24, 25}},
		{[]int{0, 1, 4, 5}, 3, []api.Sheet{innerOf(3, 2, child(10, at("")), child(12, wide(40))), one(21, 24, 1)},
			[]api.Page{1, 2, 3, 10, 12, 20, 21, 24, 25}},
		{[]int{0, 1, 2, 3}, 3, []api.Sheet{innerOf(3, 2, child(10, at("")), child(11, wide(20))), one(23, 0, 3)},
			[]api.Page{1, 2, 3, 10, 11, 20, 21, 22, 23}},
		// One leaf each.
		{[]int{1, 2, 5}, 3, []api.Sheet{
			innerOf(3, 2, child(10, at("")), child(11, wide(20)), child(12, wide(40))),
			innerOf(10, 1, child(21, at(""))), innerOf(11, 1, child(22, at(""))), innerOf(12, 1, child(25, at(""))), one(21, 22, 1), one(22, 25, 2), one(25, 0, 5)},
			[]api.Page{1, 2, 3, 10, 11, 12, 21, 22, 25}},
		// One parent is left: the root takes its place, with two children or one, which is a leaf.
		{[]int{2, 3}, 7, []api.Sheet{innerOf(3, 1, child(22, at("")), child(23, wide(30))), one(22, 23, 2), one(23, 0, 3)},
			[]api.Page{1, 2, 3, 22, 23}},
		{[]int{0}, 9, []api.Sheet{one(3, 0, 0)}, []api.Page{1, 2, 3}},
		{[]int{3}, 9, []api.Sheet{one(3, 0, 3)}, []api.Page{1, 2, 3}},
		{[]int{5}, 9, []api.Sheet{one(3, 0, 5)}, []api.Page{1, 2, 3}},
		// Nothing is left but the root.
		{nil, 9, []api.Sheet{leafOf(3, 0)}, []api.Page{1, 2, 3}},
	} {
		s := grove(t, c.live...)
		n := s.begin(t)
		s.wantClean(t, n, 3, all, 12-len(c.live), c.pages)
		s.wantPage(t, c.want...)
		s.wantTaken(t, c.taken...)
		var want []api.Item
		for _, i := range c.live {
			want = append(want, live(wide(10*i+2)))
		}
		s.wantWhole(t, 3, want...)
		// It stays so, whatever becomes of who did it; and nothing more can go.
		s.abort(t, n)
		s.wantPage(t, c.want...)
		s.wantTaken(t, c.taken...)
		n = s.begin(t)
		s.wantClean(t, n, 3, all, 0, 0)
		// Entries go where they belong.
		for i := range 70 {
			if e := smo.Insert(s.Manager, n, 3, wide(i), nil); e != api.OK && e != api.ErrTwice {
				t.Error("Insert:", e)
			}
		}
		s.wantWhole(t, 3, lives(wides(0, 70)...)...)
		if t.Failed() {
			t.Fatal(c.live)
		}
	}
}

// 14.2: a ghost that is not free keeps its leaf.
func TestCleanKeepsGhosts(t *testing.T) {
	s := grove(t)
	n := s.begin(t)
	s.wantClean(t, n, 3, none, 0, 0)
	s.wantClean(t, n, 3, func(r api.RID) bool { return r.Slot != 1 && r.Slot != 32 }, 10, 5)
	s.wantPage(t,
		innerOf(3, 2, child(10, at("")), child(11, wide(20))),
		innerOf(10, 1, child(20, at(""))),
		innerOf(11, 1, child(23, at(""))),
		leafOf(20, 23, ghost(wide(1))), leafOf(23, 0, ghost(wide(32))),
	)
	s.wantTaken(t, 1, 2, 3, 10, 11, 20, 23)
	s.wantWhole(t, 3, ghosts(wide(1), wide(32))...)
	s.wantClean(t, n, 3, only(1), 1, 4)
	s.wantPage(t, leafOf(3, 0, ghost(wide(32))))
	s.wantClean(t, n, 3, only(32), 1, 0)
	s.wantPage(t, leafOf(3, 0))
	s.wantTaken(t, 1, 2, 3)
}

// 14.2: leaves that were empty already go; a tree with one leaf, empty or not, and pages of one child above it.
func TestCleanEmptyLeaves(t *testing.T) {
	s := planted(t, innerOf(3, 1, child(8, at("")), child(9, at("m")), child(10, at("p"))), leafOf(8, 9), leafOf(9, 10, live(at("n"))), leafOf(10, 0))
	n := s.begin(t)
	s.wantClean(t, n, 3, none, 0, 3)
	s.wantPage(t, leafOf(3, 0, live(at("n"))))
	s.wantTaken(t, 1, 2, 3)

	s = planted(t, innerOf(3, 1, child(8, at("")), child(9, at("m")), child(10, at("p"))), leafOf(8, 9), leafOf(9, 10), leafOf(10, 0))
	n = s.begin(t)
	s.wantClean(t, n, 3, all, 0, 3)
	s.wantPage(t, leafOf(3, 0))
	s.wantTaken(t, 1, 2, 3)

	for _, l := range [][]api.Item{nil, lives(at("a"), at("b"))} {
		s = planted(t, innerOf(3, 3, child(4, at(""))), innerOf(4, 2, child(5, at(""))), innerOf(5, 1, child(6, at(""))), leafOf(6, 0, l...))
		n = s.begin(t)
		s.wantClean(t, n, 3, none, 0, 3)
		s.wantPage(t, leafOf(3, 0, l...))
		s.wantTaken(t, 1, 2, 3)
	}
}

// 14.2: a root with one child takes its place: also if that is an inner page with many children.
func TestCleanShrinks(t *testing.T) {
	sheets, want := crowd(10, 420)
	s := planted(t, append(sheets, innerOf(3, 2, child(10, at(""))))...)
	n := s.begin(t)
	inner := s.get(t, 10)
	s.wantClean(t, n, 3, all, 0, 1)
	inner.Number = 3
	s.wantPage(t, inner)
	s.wantWhole(t, 3, want...)
}

// 14.2: each page that went is taken again by who needs one.
func TestCleanedPagesAreFree(t *testing.T) {
	s := begun(t)
	n := s.begin(t)
	root := s.create(t, n)
	s.insert(t, n, root, wides(0, 60)...)
	was := s.wantWhole(t, root, lives(wides(0, 60)...)...)
	for range 3 {
		s.delete(t, n, root, wides(0, 60)...)
		s.wantClean(t, n, root, all, 60, len(was)-1)
		s.wantTaken(t, 1, 2, 3)
		s.insert(t, n, root, wides(0, 60)...)
		if pages := s.wantWhole(t, root, lives(wides(0, 60)...)...); !slices.Equal(pages, was) {
			t.Errorf("pages: %v, were %v", pages, was)
		}
	}
}

// 14.2, 14.3: what was nested ends by records of its own: one a leaf that goes, one a child whose place the root takes.
func TestCleanNested(t *testing.T) {
	s := grove(t, 3)
	n := s.begin(t)
	from := s.l.End()
	s.wantClean(t, n, 3, all, 11, 9)
	ends, removed := 0, 0
	for _, x := range records(t, s.l, from) {
		switch {
		case x.r.Kind == api.RecTop:
			ends++
		case x.r.Undo == api.UndoNone:
			removed++
			if x.r.Op.Kind != api.OpRemove || ends > 0 {
				t.Errorf("logged: %v", x.r)
			}
		}
	}
	if ends != 5+2 || removed != 11 {
		t.Error("nested:", ends, "removed:", removed)
	}
	x, _ := s.State(n)
	if r, at, e := s.Next(n); at != 0 || e != api.OK {
		t.Errorf("there is something to take back: %v at %d, %v", r, at, x)
	}
}

// 14.2: a tree of many leaves, cleaned by parts, behind each of which it is well formed; as many pages go as are free then.
func TestCleanByParts(t *testing.T) {
	s := laid(t, 200, 16, 2)
	n := s.begin(t)
	root := s.create(t, n)
	has := items{}
	for i := range 150 {
		has[wide(i*71%150)] = true
		s.insert(t, n, root, wide(i*71%150))
	}
	s.commit(t, n)
	for part := range 5 {
		n := s.begin(t)
		gone := 0
		for i := part; i < 150; i += 5 {
			// From left to right the more, so that neighbours go, too.
			en := wide((i*30 + i/5) % 150)
			if has[en] {
				s.delete(t, n, root, en)
				delete(has, en)
				gone++
			}
		}
		was := space.Count(s.get(t, api.MapPage))
		g, p, e := smo.Clean(s.Manager, n, root, all)
		if g != gone || p != was-space.Count(s.get(t, api.MapPage)) || e != api.OK {
			t.Errorf("Clean: %d, %d, %d", g, p, e)
		}
		s.wantWhole(t, root, has.list()...)
		s.commit(t, n)
	}
	leaves, e := tree.Leaves(s.p, root)
	wantErr(t, "Leaves", e, api.OK)
	if len(leaves) > 1 {
		for _, l := range leaves {
			if len(s.get(t, l).Slots) == 0 {
				t.Error("an empty leaf is left:", l)
			}
		}
	}
}

// 14.2: free is asked once for each ghost, leaf by leaf, of each from the last one on; never for what is live.
func TestCleanAsks(t *testing.T) {
	s := grove(t, 1, 4)
	n := s.begin(t)
	var asked []int
	s.wantClean(t, n, 3, func(r api.RID) bool {
		asked = append(asked, r.Slot)
		return false
	}, 0, 0)
	if !slices.Equal(asked, []int{2, 1, 11, 22, 21, 32, 31, 41, 52, 51}) {
		t.Error("asked for:", asked)
	}
}
