package tree_test

import (
	"maps"
	"slices"
	"strings"
	"testing"

	"girder/api"
	"girder/tree"
)

// wantBad asks Check for ErrNode.
func wantBad(t *testing.T, what string, w woods, root api.Page) {
	t.Helper()
	if l, e := tree.Check(grown(t, w), root); e != api.ErrNode || len(l) != 0 {
		t.Errorf("%s: Check: %v, %d, not ErrNode", what, l, e)
	}
}

// wantGood asks Check for pages.
func wantGood(t *testing.T, what string, w woods, root api.Page, want ...api.Page) {
	t.Helper()
	l, e := tree.Check(grown(t, w), root)
	wantPages(t, what+": Check", l, e, want...)
}

// goodTree asks for the pages of the tree of most tests, some of which were changed.
func goodTree(t *testing.T, what string, l ...api.Sheet) {
	t.Helper()
	wantGood(t, what, someTree().with(l...), treeRoot, 10, 20, 30, 31, 32, 21, 33, 34, 35)
}

// badTree asks for ErrNode of the tree of most tests, some of whose pages were changed.
func badTree(t *testing.T, what string, l ...api.Sheet) {
	t.Helper()
	wantBad(t, what, someTree().with(l...), treeRoot)
}

// 13.1: a page met twice: a leaf, an inner page, the root; beside it and elsewhere.
func TestPageMetTwice(t *testing.T) {
	from := entry("g", 1, 2)
	for next := range someTree() {
		badTree(t, "a leaf, beside it", innerOf(20, 1, child(30, at("")), child(32, at("c")), child(32, from)), leafOf(30, 32), leafOf(32, next))
		badTree(t, "a leaf, of another page", innerOf(20, 1, child(30, at("")), child(31, at("c")), child(34, from)), leafOf(31, 34), leafOf(33, 34), leafOf(34, next))
	}
	for _, next := range []api.Page{0, 3} {
		wantBad(t, "a leaf alone", woods{}.with(innerOf(9, 1, child(3, at("")), child(3, at("a"))), leafOf(3, next)), 9)
		wantBad(t, "an inner page", woods{}.with(innerOf(9, 2, child(8, at("")), child(8, at("a"))), innerOf(8, 1, child(3, at(""))), leafOf(3, next)), 9)
	}
	badTree(t, "an inner page", innerOf(10, 2, child(20, at("")), child(20, entry("m", 5, 5))))
	badTree(t, "the root", innerOf(10, 2, child(20, at("")), child(10, entry("m", 5, 5))))
	badTree(t, "the root, further down", innerOf(20, 1, child(30, at("")), child(31, at("c")), child(10, from)))
}

// 13.1: levels: of the root, of an inner page, of leaves that are too high or too deep.
func TestLevels(t *testing.T) {
	root := func(level byte) api.Sheet {
		return innerOf(10, level, child(20, at("")), child(21, entry("m", 5, 5)))
	}
	first := func(level byte) api.Sheet {
		return innerOf(20, level, child(30, at("")), child(31, at("c")), child(32, entry("g", 1, 2)))
	}
	last := func(level byte) api.Sheet {
		return innerOf(21, level, child(33, at("")), child(34, at("p")), child(35, at("t")))
	}
	for level := range 256 {
		l := byte(level)
		if level != 2 {
			badTree(t, "the root's level", root(l))
		}
		if level != 1 {
			badTree(t, "the first one's level", first(l))
			badTree(t, "the last one's level", last(l))
			badTree(t, "both levels", first(l), last(l))
			badTree(t, "all levels", root(l+1), first(l), last(l))
			wantBad(t, "a root above leaves", someTree().with(last(l)), 21)
			wantBad(t, "a root above a leaf", woods{}.with(innerOf(9, l, child(3, at(""))), leafOf(3, 0)), 9)
		}
	}
	goodTree(t, "the right ones", root(2), first(1), last(1))
	wantGood(t, "a root above leaves", someTree(), 21, 21, 33, 34, 35)
}

// 13.1: leaves that are not all as deep.
func TestUnevenLevels(t *testing.T) {
	for _, level := range []byte{0, 1, 2, 3} {
		wantBad(t, "a leaf beside an inner page", woods{}.with(innerOf(9, level, child(3, at("")), child(8, at("c"))), innerOf(8, 1, child(4, at(""))), leafOf(3, 4), leafOf(4, 0)), 9)
		wantBad(t, "an inner page beside a leaf", woods{}.with(innerOf(9, level, child(8, at("")), child(4, at("c"))), innerOf(8, 1, child(3, at(""))), leafOf(3, 4), leafOf(4, 0)), 9)
		wantBad(t, "an inner page of level 0", woods{}.with(innerOf(9, level, child(8, at(""))), innerOf(8, 0, child(3, at(""))), leafOf(3, 0)), 9)
	}
}

// 13.1: a first child that does not begin with the zero entry: of the root, of others.
func TestFirstChild(t *testing.T) {
	for _, from := range []api.Entry{at("\x00"), at("a"), entry("", 0, 1), entry("", 1, 0)} {
		wantBad(t, "of one child", woods{}.with(innerOf(9, 1, child(3, from)), leafOf(3, 0)), 9)
		badTree(t, "of the root", innerOf(10, 2, child(20, from), child(21, entry("m", 5, 5))), leafOf(30, 31))
		badTree(t, "of the first page", innerOf(20, 1, child(30, from), child(31, at("c")), child(32, entry("g", 1, 2))), leafOf(30, 31))
	}
	// It is the zero entry also where the page begins elsewhere.
	for _, from := range []api.Entry{entry("m", 5, 5), entry("m", 5, 6), at("a")} {
		badTree(t, "of the last page", innerOf(21, 1, child(33, from), child(34, at("p")), child(35, at("t"))), leafOf(33, 34))
	}
}

// 13.1: children that do not rise: the same, or falling, by keys and by places.
func TestChildrenThatDoNotRise(t *testing.T) {
	leaves := []api.Sheet{leafOf(3, 4), leafOf(4, 5), leafOf(5, 0)}
	of := func(a, b api.Entry) woods {
		return woods{}.with(leaves...).with(innerOf(9, 1, child(3, at("")), child(4, a), child(5, b)))
	}
	rising := []api.Entry{entry("", 0, 1), entry("", 1, 0), at("\x00"), at("a"), entry("a", 0, 1), entry("a", 0, 256), entry("a", 1, 0), entry("a", 256, 0), at("a\x00"), at("b"), at("\xff")}
	for i, a := range rising {
		for j, b := range rising {
			if i < j {
				wantGood(t, "rising", of(a, b), 9, 9, 3, 4, 5)
			} else {
				wantBad(t, "not rising", of(a, b), 9)
			}
		}
		wantBad(t, "the second like the first", of(at(""), a), 9)
		wantBad(t, "the third like the first", of(a, at("")), 9)
	}
	wantBad(t, "all like the first", of(at(""), at("")), 9)
}

// 13.1: children out of the bounds of their page, whose leaves are empty, so that nothing else is wrong.
func TestChildrenOutOfBounds(t *testing.T) {
	empty := []api.Sheet{leafOf(30, 31), leafOf(31, 32), leafOf(32, 33), leafOf(33, 34), leafOf(34, 35), leafOf(35, 0)}
	of := func(inner api.Sheet) []api.Sheet { return append(slices.Clone(empty), inner) }
	last := func(a, b api.Entry) []api.Sheet {
		return of(innerOf(21, 1, child(33, at("")), child(34, a), child(35, b)))
	}
	for _, a := range []api.Entry{at("a"), at("m"), entry("m", 4, 9), entry("m", 5, 4)} {
		badTree(t, "ahead of where the page begins", last(a, at("t"))...)
	}
	badTree(t, "all ahead of where the page begins", last(at("a"), at("c"))...)
	for _, a := range []api.Entry{entry("m", 5, 5), entry("m", 5, 6), entry("m", 6, 0), at("n")} {
		goodTree(t, "not ahead of where the page begins", last(a, at("t"))...)
	}
	first := func(b api.Entry) []api.Sheet {
		return of(innerOf(20, 1, child(30, at("")), child(31, at("c")), child(32, b)))
	}
	for _, b := range []api.Entry{entry("m", 5, 5), entry("m", 5, 6), entry("m", 6, 0), at("n"), at("\xff")} {
		badTree(t, "not ahead of where the next page begins", first(b)...)
	}
	for _, b := range []api.Entry{entry("m", 5, 4), entry("m", 4, 9), at("m"), at("d")} {
		goodTree(t, "ahead of where the next page begins", first(b)...)
	}
	goodTree(t, "the last page has no end", last(at("t"), entry(strings.Repeat("\xff", api.MaxKey), 1<<32-1, 65535))...)
}

// 13.1: bounds are handed down over several levels.
func TestBoundsFromAbove(t *testing.T) {
	of := func(low, high api.Entry, from api.Entry) woods {
		return woods{}.with(
			innerOf(2, 3, child(3, at("")), child(4, low), child(5, high)),
			innerOf(3, 2, child(6, at(""))), innerOf(4, 2, child(7, at(""))), innerOf(5, 2, child(8, at(""))),
			innerOf(6, 1, child(9, at(""))), innerOf(7, 1, child(10, at("")), child(11, from)), innerOf(8, 1, child(12, at(""))),
			leafOf(9, 10), leafOf(10, 11), leafOf(11, 12), leafOf(12, 0))
	}
	wantGood(t, "within", of(at("c"), at("f"), at("d")), 2, 2, 3, 6, 9, 4, 7, 10, 11, 5, 8, 12)
	for _, from := range []api.Entry{at("b"), entry("c", 0, 0), at("f"), at("g")} {
		want := from == at("c")
		if _, e := tree.Check(grown(t, of(at("c"), at("f"), from)), 2); (e == api.OK) != want {
			t.Errorf("a child from %+v: %d", from, e)
		}
	}
	w := of(at("c"), at("f"), at("d"))
	for n, bounds := range map[api.Page][2]string{9: {"", "c"}, 10: {"c", "d"}, 11: {"d", "f"}, 12: {"f", "\xff\xff"}} {
		for _, k := range []string{"", "a", "c", "c1", "d", "d1", "f", "f1", "\xff"} {
			x := leafOf(n, 0, live(at(k)))
			x.Head = w[n].Head
			_, e := tree.Check(grown(t, w.with(x)), 2)
			want := api.ErrNode
			if bounds[0] <= k && k < bounds[1] {
				want = api.OK
			}
			if e != want {
				t.Errorf("%q in the leaf %d: %d, not %d", k, n, e, want)
			}
		}
	}
}

// 13.1: items that do not rise: the same, or falling, by keys and by places, live and ghosts.
func TestItemsThatDoNotRise(t *testing.T) {
	rising := []api.Entry{at(""), entry("", 0, 1), entry("", 1, 0), at("\x00"), at("a"), entry("a", 0, 1), entry("a", 0, 256), entry("a", 1, 0), entry("a", 256, 0), at("a\x00"), at("b"), at("\xff")}
	for i, a := range rising {
		for j, b := range rising {
			for _, l := range [][]api.Item{{live(a), live(b)}, {ghost(a), live(b)}, {live(a), ghost(b)}, {ghost(a), ghost(b)}} {
				w := woods{}.with(leafOf(3, 0, l...))
				if i < j {
					wantGood(t, "rising", w, 3, 3)
				} else {
					wantBad(t, "not rising", w, 3)
				}
			}
		}
	}
	badTree(t, "in the first leaf", leafOf(30, 31, lives("a", "b", "b")...))
	badTree(t, "in a leaf between", leafOf(33, 34, lives("n", "o", "n")...))
	badTree(t, "in the last leaf", leafOf(35, 0, lives("z", "t")...))
}

// 13.1: items out of the bounds of their leaf, live or ghosts: each end, just there and just past it.
func TestItemsOutOfBounds(t *testing.T) {
	for _, c := range []struct {
		n, next  api.Page
		in, outs []api.Entry
	}{
		{30, 31, []api.Entry{at(""), at("a"), at("b\xff")}, []api.Entry{at("c"), entry("c", 0, 1), at("h"), at("z")}},
		{31, 32, []api.Entry{at("c"), at("f"), at("g"), entry("g", 1, 1), entry("g", 0, 9)}, []api.Entry{at(""), at("b\xff"), entry("g", 1, 2), entry("g", 1, 3), at("m"), at("z")}},
		{32, 33, []api.Entry{entry("g", 1, 2), at("h"), at("m"), entry("m", 5, 4)}, []api.Entry{at(""), at("g"), entry("g", 1, 1), entry("m", 5, 5), entry("m", 5, 6), at("z")}},
		{33, 34, []api.Entry{entry("m", 5, 5), entry("m", 6, 0), at("o\xff")}, []api.Entry{at(""), at("m"), entry("m", 5, 4), at("p"), at("z")}},
		{34, 35, []api.Entry{at("p"), at("s\xff")}, []api.Entry{at(""), at("o\xff"), at("t"), at("z")}},
		{35, 0, []api.Entry{at("t"), at("z"), entry(strings.Repeat("\xff", api.MaxKey), 1<<32-1, 65535)}, []api.Entry{at(""), at("s\xff"), at("m")}},
	} {
		for _, en := range c.in {
			goodTree(t, "within", leafOf(c.n, c.next, live(en)))
			goodTree(t, "a ghost within", leafOf(c.n, c.next, ghost(en)))
		}
		for _, en := range c.outs {
			badTree(t, "without", leafOf(c.n, c.next, live(en)))
			badTree(t, "a ghost without", leafOf(c.n, c.next, ghost(en)))
		}
	}
	badTree(t, "the last one of several", leafOf(31, 32, live(at("c")), live(at("f")), live(entry("g", 1, 2))))
	badTree(t, "the first one of several", leafOf(33, 34, live(entry("m", 5, 4)), live(entry("m", 5, 5)), live(at("o"))))
}

// 13.1: each leaf's link to each other page, to none and to pages beside the tree: one alone is right.
func TestLinks(t *testing.T) {
	leaves := []api.Page{30, 31, 32, 33, 34, 35}
	others := append(slices.Sorted(maps.Keys(someTree())), 0, 1, 40, 41, room, room+1, api.MaxPages+1, 1<<32-1, 30+1<<16, 31<<8)
	for i, n := range leaves {
		for _, next := range others {
			x := leafOf(n, next)
			if i+1 < len(leaves) && next == leaves[i+1] || i+1 == len(leaves) && next == 0 {
				goodTree(t, "linked", x, leafOf(40, 0))
			} else {
				badTree(t, "not linked", x, leafOf(40, 0))
			}
		}
	}
	badTree(t, "two exchanged", leafOf(30, 32), leafOf(31, 33), leafOf(32, 31))
	badTree(t, "all backwards", leafOf(30, 0), leafOf(31, 30), leafOf(32, 31), leafOf(33, 32), leafOf(34, 33), leafOf(35, 34))
	wantBad(t, "a root that leads to another leaf", woods{}.with(leafOf(3, 4), leafOf(4, 0)), 3)
	wantBad(t, "a root that leads to itself", woods{}.with(leafOf(3, 3)), 3)
	wantBad(t, "a part of a tree", someTree(), 20)
	wantGood(t, "its last part", someTree(), 21, 21, 33, 34, 35)
	wantGood(t, "its last leaf", someTree(), 35, 35)
}

// 13.1: the order of pages hangs on the children, not on numbers.
func TestOrderOfPages(t *testing.T) {
	w := woods{}.with(
		innerOf(5, 2, child(9, at("")), child(4, at("g")), child(8, at("t"))),
		innerOf(9, 1, child(2, at("")), child(7, at("b"))), innerOf(4, 1, child(11, at(""))), innerOf(8, 1, child(1, at("")), child(12, at("u")), child(3, at("x"))),
		leafOf(2, 7), leafOf(7, 11, lives("b", "c")...), leafOf(11, 1, lives("g")...), leafOf(1, 12), leafOf(12, 3), leafOf(3, 0, lives("x")...))
	wantGood(t, "order", w, 5, 5, 9, 2, 7, 4, 11, 8, 1, 12, 3)
	leaves, e := tree.Leaves(grown(t, w), 5)
	wantPages(t, "Leaves", leaves, e, 2, 7, 11, 1, 12, 3)
}

// 13.1: a page with the most children that fit, over leaves with one item each.
func TestManyChildren(t *testing.T) {
	w, kids, want, all := woods{}, []api.Child{child(2, at(""))}, []api.Page{1, 2}, []api.Item{live(at(""))}
	for i := 1; i < 40; i++ {
		kids = append(kids, child(api.Page(2+i), entry("", 0, i)))
		want = append(want, api.Page(2+i))
		all = append(all, live(entry("", 0, i)))
	}
	for i := range 40 {
		next := api.Page(3 + i)
		if i == 39 {
			next = 0
		}
		w = w.with(leafOf(api.Page(2+i), next, all[i]))
	}
	w = w.with(innerOf(1, 1, kids...))
	wantGood(t, "many", w, 1, want...)
	wantEach(t, grown(t, w), 1, all, probes(all))
}

// lackOf is pages on the disk of which some can't be read, and what Check tells of them.
func lackOf(t *testing.T, w woods, spoilt ...api.Page) api.Errno {
	t.Helper()
	w = maps.Clone(w)
	for _, n := range spoilt {
		delete(w, n)
	}
	p, d := laid(t, w, room, frames)
	junk := strings.Repeat("x", api.PageBytes)
	for _, n := range spoilt {
		if d.Write(n, junk) != api.OK || d.Write(n+api.MaxPages, junk) != api.OK {
			t.Fatal("disk.Write")
		}
	}
	l, e := tree.Check(p, treeRoot)
	if len(l) != 0 {
		t.Errorf("Check: %v beside %d", l, e)
	}
	return e
}

// R2: that a tree is not well formed is told ahead of a page that the pool can't give, wherever the two stand.
func TestErrNodeFirst(t *testing.T) {
	faults := map[api.Page][]api.Sheet{
		20: {innerOf(20, 2, child(30, at("")), child(31, at("c"))), innerOf(20, 1, child(30, at("a"))), innerOf(20, 1), {Number: 20}},
		21: {innerOf(21, 1, child(33, at("")), child(34, at("a"))), innerOf(21, 1, child(33, at("")), child(34, at("t")), child(35, at("p")))},
		30: {leafOf(30, 31, lives("b", "a")...), leafOf(30, 31, lives("c")...), {Number: 30, Kind: api.KindHeap}},
		35: {leafOf(35, 0, lives("z", "t")...), leafOf(35, 0, lives("a")...), leafOf(35, 30), {Number: 35, Kind: api.KindHeap}},
	}
	for at, l := range faults {
		for _, x := range l {
			for n := range someTree() {
				below := at == 30 && n == 20 || at == 35 && n == 21
				if n == treeRoot || n == at || below {
					continue
				}
				if e := lackOf(t, someTree().with(x), n); e != api.ErrNode {
					t.Errorf("page %d is spoilt, %+v: %d", n, x, e)
				}
			}
		}
	}
	// What the root itself has wrong is told whatever its children are.
	root := innerOf(10, 2, child(20, at("")), child(21, at("")))
	if e := lackOf(t, someTree().with(root), 20, 21); e != api.ErrNode {
		t.Error("a root that is wrong:", e)
	}
	twice := innerOf(10, 2, child(20, at("")), child(20, at("m")))
	if e := lackOf(t, someTree().with(twice), 20); e != api.ErrNode {
		t.Error("a page that can't be read, met twice:", e)
	}
	long := innerOf(10, 32, child(20, at("")))
	if e := lackOf(t, someTree().with(long), 20); e != api.ErrNode {
		t.Error("a way that is too long:", e)
	}
}

// Of several pages that the pool can't give the first one, each ahead of its children, is told.
func TestFirstLack(t *testing.T) {
	const none, beyond = api.MaxPages + 1, room + 1
	first := func(n api.Page) api.Sheet {
		return innerOf(20, 1, child(30, at("")), child(31, at("c")), child(n, entry("g", 1, 2)))
	}
	root := func(a, b api.Page) api.Sheet { return innerOf(10, 2, child(a, at("")), child(b, entry("m", 5, 5))) }
	for _, c := range []struct {
		w      woods
		spoilt []api.Page
		want   api.Errno
	}{
		{someTree(), []api.Page{10}, api.ErrCorrupt},
		{someTree().with(root(none, beyond)), nil, api.ErrArg},
		{someTree().with(root(beyond, none)), nil, api.ErrSpace},
		{someTree().with(root(20, none)), []api.Page{20}, api.ErrCorrupt},
		{someTree().with(root(none, 21)), []api.Page{21}, api.ErrArg},
		{someTree().with(root(20, none), first(beyond)), nil, api.ErrSpace},
		{someTree().with(root(20, none), first(beyond)), []api.Page{30}, api.ErrCorrupt},
		{someTree().with(root(20, beyond), first(none)), []api.Page{33}, api.ErrArg},
		// Where a leaf that can't be read lies between, links tell nothing.
		{someTree().with(leafOf(31, 40)), []api.Page{32}, api.ErrCorrupt},
		{someTree().with(leafOf(34, 0)), []api.Page{35}, api.ErrCorrupt},
	} {
		if e := lackOf(t, c.w, c.spoilt...); e != c.want {
			t.Errorf("%v are spoilt: %d, not %d", c.spoilt, e, c.want)
		}
	}
}
