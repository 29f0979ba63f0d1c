package tree_test

import (
	"math"
	"strings"
	"testing"

	"girder/api"
	"girder/page"
	"girder/tree"
)

// chainOf is a tree of so many levels with a page each: the pages 1 to n, the last a leaf.
func chainOf(n int) woods {
	w := woods{}.with(leafOf(api.Page(n), 0, lives("a", "c")...))
	for i := 1; i < n; i++ {
		w = w.with(innerOf(api.Page(i), byte(n-i), child(api.Page(i+1), at(""))))
	}
	return w
}

// 13.1: ways of up to just 32 pages, and longer ones.
func TestLongWays(t *testing.T) {
	for n := 1; n <= 40; n++ {
		p := grown(t, chainOf(n))
		if n > 32 {
			wantErrs(t, "a way that is too long", p, 1, at("a"), api.ErrNode)
			continue
		}
		var want []api.Page
		for i := range n {
			want = append(want, api.Page(i+1))
		}
		way, e := tree.Path(p, 1, at("a"))
		wantPages(t, "Path", way, e, want...)
		pages, e := tree.Check(p, 1)
		wantPages(t, "Check", pages, e, want...)
		leaves, e := tree.Leaves(p, 1)
		wantPages(t, "Leaves", leaves, e, api.Page(n))
		wantEach(t, p, 1, lives("a", "c"), probes(lives("a", "c")))
		wantAll(t, p, 1, lives("a", "c")...)
	}
}

// 13.1: one way is just as long as it may be, another one beside it longer.
func TestLongWayBeside(t *testing.T) {
	for _, c := range []struct {
		long  int // of the way of what is not ahead of m
		first api.Errno
		other api.Errno
	}{{31, api.OK, api.OK}, {32, api.OK, api.ErrNode}} {
		w := chainOf(c.long).with(innerOf(50, byte(c.long), child(51, at("")), child(1, at("m"))), leafOf(51, api.Page(c.long), lives("a", "b")...))
		w = w.with(leafOf(api.Page(c.long), 0, lives("m", "n")...))
		p := grown(t, w)
		for name, en := range map[string]api.Entry{"the first way": at("a"), "the other way": at("m")} {
			want := map[string]api.Errno{"the first way": c.first, "the other way": c.other}[name]
			for _, call := range []string{"Path", "Seek", "Behind", "Find"} {
				if _, e := calls()[call].do(p, 50, en); e != want {
					t.Errorf("%s: %s: %d, not %d", name, call, e, want)
				}
			}
		}
		// By the links all is found; but inner pages are not one level above all their children.
		wantAll(t, p, 50, lives("a", "b", "m", "n")...)
		wantErrs(t, "a way that is longer than others", p, 50, at(""), api.ErrNode, "Check")
	}
}

// 13.1: ways without an end.
func TestEndlessWays(t *testing.T) {
	for _, w := range []woods{
		woods{}.with(innerOf(3, 1, child(3, at("")))),
		woods{}.with(innerOf(3, 0, child(3, at("")))),
		woods{}.with(innerOf(3, 2, child(4, at(""))), innerOf(4, 1, child(3, at("")))),
		woods{}.with(innerOf(3, 2, child(4, at("")), child(4, at("b"))), innerOf(4, 1, child(3, at("")), child(4, at("c")))),
	} {
		p := grown(t, w)
		for _, en := range []api.Entry{at(""), at("b"), at("z")} {
			wantErrs(t, "no end", p, 3, en, api.ErrNode)
		}
	}
}

// noTrees is pages that stand in no tree, as the page n.
func noTrees(n api.Page) map[string]api.Sheet {
	item, kid := leafOf(n, 0, live(at("a"))).Slots[0], innerOf(n, 1, child(40, at(""))).Slots[0]
	head := func(x api.Sheet, head string) api.Sheet {
		x.Head = head
		return x
	}
	slots := func(x api.Sheet, l ...string) api.Sheet {
		x.Slots = l
		return x
	}
	kind := func(x api.Sheet, kind int) api.Sheet {
		x.Kind = kind
		return x
	}
	leaf, inner := leafOf(n, 0, live(at("a"))), innerOf(n, 1, child(40, at("")))
	return map[string]api.Sheet{
		"blank":                           page.Blank(n),
		"rows":                            kind(leaf, api.KindHeap),
		"a map":                           kind(inner, api.KindMap),
		"another kind":                    kind(leaf, 5),
		"a leaf of an inner page's kind":  kind(leaf, api.KindInner),
		"an inner page of a leaf's kind":  kind(inner, api.KindLeaf),
		"a leaf without a head":           head(leaf, ""),
		"a leaf with a short head":        head(leaf, "\x00\x00\x00"),
		"a leaf with a long head":         head(leaf, "\x00\x00\x00\x00\x00"),
		"a leaf with a slot too short":    slots(leaf, item, "\x01\x00\x00\x00\x00\x00"),
		"a leaf with an empty slot":       slots(leaf, ""),
		"a leaf with 2 for live":          slots(leaf, item, "\x02"+item[1:]),
		"an inner page without a head":    head(inner, ""),
		"an inner page with a long head":  head(inner, "\x01\x00"),
		"an inner page with a bad slot":   slots(inner, kid, kid[:9]),
		"an inner page with a bad first":  slots(inner, strings.Repeat("\x00", 9), kid),
		"an inner page without children":  innerOf(n, 1),
		"an inner one, level 0, no child": innerOf(n, 0),
	}
}

// 13.1: pages that are none of a tree on the way of all: the root, an inner page, the first leaf.
func TestNoTreeOnTheWay(t *testing.T) {
	for _, n := range []api.Page{10, 20, 30} {
		for what, x := range noTrees(n) {
			p := grown(t, someTree().with(leafOf(40, 0), x))
			wantErrs(t, what, p, treeRoot, at("a"), api.ErrNode)
		}
	}
}

// 13.1: beside the way: an inner page, a leaf that others lead to by links, and the last one.
func TestNoTreeBesideTheWay(t *testing.T) {
	for what, x := range noTrees(21) {
		p := grown(t, someTree().with(leafOf(40, 0), x))
		wantErrs(t, what, p, treeRoot, at("z"), api.ErrNode, "Path", "Seek", "Behind", "Find", "Check")
		wantFine(t, what, p, treeRoot, at("a"), "Path", "Seek", "Behind", "Find")
		// Links do not pass by it.
		wantAll(t, p, treeRoot, someItems()...)
		wantFine(t, what, p, treeRoot, at("f"), "Leaves", "Behind")
	}
	for what, x := range noTrees(31) {
		p := grown(t, someTree().with(leafOf(40, 0), x))
		wantErrs(t, what, p, treeRoot, at("c"), api.ErrNode)
		wantErrs(t, what, p, treeRoot, at("bzz"), api.ErrNode, "Seek", "Behind", "Leaves", "All", "Check")
		wantErrs(t, what, p, treeRoot, at("bz"), api.ErrNode, "Behind")
		wantFine(t, what, p, treeRoot, at("bz"), "Path", "Seek", "Find")
		wantFine(t, what, p, treeRoot, at("bzz"), "Path", "Find")
		wantFine(t, what, p, treeRoot, at("g1"), "Path", "Seek", "Behind", "Find")
	}
	for what, x := range noTrees(35) {
		p := grown(t, someTree().with(leafOf(40, 0), x))
		wantErrs(t, what, p, treeRoot, at("t"), api.ErrNode)
		wantErrs(t, what, p, treeRoot, at("o"), api.ErrNode, "Behind")
		wantErrs(t, what, p, treeRoot, at("q"), api.ErrNode, "Seek")
		wantFine(t, what, p, treeRoot, at("o"), "Path", "Seek", "Find")
	}
}

// 13.1: a link that leads to an inner page, be it a right one.
func TestLinkToAnInnerPage(t *testing.T) {
	for _, n := range []api.Page{10, 20, 21, 40} {
		p := grown(t, someTree().with(leafOf(31, n, lives("c", "f")...), innerOf(40, 1, child(41, at(""))), leafOf(41, 0, lives("x")...)))
		wantErrs(t, "a link to an inner page", p, treeRoot, at("fa"), api.ErrNode, "Seek", "Behind", "Leaves", "All", "Check")
		wantErrs(t, "a link to an inner page", p, treeRoot, at("f"), api.ErrNode, "Behind")
		wantFine(t, "a link to an inner page", p, treeRoot, at("f"), "Path", "Seek", "Find")
	}
}

// R1: links that lead back: to the leaf itself, to one ahead.
func TestEndlessLinks(t *testing.T) {
	for _, n := range []api.Page{35, 34, 33, 31, 30} {
		p := grown(t, someTree().with(leafOf(35, n, live(at("t")), live(entry("z", 9, 9)))))
		wantErrs(t, "links without an end", p, treeRoot, at("zz"), api.ErrNode, "Seek", "Behind", "Leaves", "All", "Check")
		wantFine(t, "links without an end", p, treeRoot, at("z"), "Path", "Seek", "Behind", "Find")
	}
	p := grown(t, woods{}.with(leafOf(3, 3)))
	wantErrs(t, "a leaf that leads to itself", p, 3, at("a"), api.ErrNode, "Seek", "Behind", "Leaves", "All", "Check")
	wantFine(t, "a leaf that leads to itself", p, 3, at("a"), "Path", "Find")
	p = grown(t, woods{}.with(leafOf(3, 4, lives("a")...), leafOf(4, 3, lives("c")...)))
	wantErrs(t, "two that lead to each other", p, 3, at("d"), api.ErrNode, "Seek", "Behind", "Leaves", "All", "Check")
	x, is, e := tree.Behind(p, 3, at("a"))
	wantItem(t, "Behind", x, is, e, live(at("c")))
}

// R1: a nil pool, whatever else is asked for.
func TestNilPool(t *testing.T) {
	for _, root := range []api.Page{0, 1, 3, api.MaxPages, api.MaxPages + 1, math.MaxUint32} {
		for _, en := range probes(nil) {
			wantErrs(t, "nil", nil, root, en, api.ErrArg)
		}
	}
}

// Roots that no pool gives, and one that this disk has no room for.
func TestRootsThatAreNone(t *testing.T) {
	p := grown(t, someTree())
	for _, root := range []api.Page{0, api.MaxPages + 1, 2*api.MaxPages + 1, math.MaxUint32} {
		wantErrs(t, "no page", p, root, at("a"), api.ErrArg)
	}
	for _, root := range []api.Page{room + 1, api.MaxPages} {
		wantErrs(t, "no room", p, root, at("a"), api.ErrSpace)
	}
	wantErrs(t, "a page that was never put", p, room, at("a"), api.ErrNode)
}

// 13.1: pages whose places can't be read: on the way, by the links, elsewhere.
func TestSpoiltPages(t *testing.T) {
	for n := range someTree() {
		w := someTree()
		delete(w, n)
		p, d := laid(t, w, room, frames)
		junk := strings.Repeat("x", api.PageBytes)
		if d.Write(n, junk) != api.OK || d.Write(n+api.MaxPages, junk) != api.OK {
			t.Fatal("disk.Write")
		}
		wantErrs(t, "Check", p, treeRoot, at(""), api.ErrCorrupt, "Check")
		for _, en := range probes(someItems()) {
			want := api.OK
			for _, on := range wholeWay(t, en) {
				if on == n {
					want = api.ErrCorrupt
				}
			}
			if _, e := tree.Path(p, treeRoot, en); e != want {
				t.Errorf("page %d is spoilt: Path of %+v: %d, not %d", n, en, e, want)
			}
			if _, _, e := tree.Find(p, treeRoot, en); e != want {
				t.Errorf("page %d is spoilt: Find of %+v: %d, not %d", n, en, e, want)
			}
		}
		if n == 21 {
			wantAll(t, p, treeRoot, someItems()...)
			continue
		}
		wantErrs(t, "spoilt", p, treeRoot, at(""), api.ErrCorrupt, "Leaves", "All")
	}
}

// wholeWay is the way of an entry in the tree of most tests as it is whole.
func wholeWay(t *testing.T, en api.Entry) []api.Page {
	t.Helper()
	way, e := tree.Path(grown(t, someTree()), treeRoot, en)
	if e != api.OK {
		t.Fatal("Path:", e)
	}
	return way
}

// 13.1: links that lead to what the pool can't give; only who goes by them is told so.
func TestLinksToNoPage(t *testing.T) {
	for next, want := range map[api.Page]api.Errno{api.MaxPages + 1: api.ErrArg, math.MaxUint32: api.ErrArg, room + 1: api.ErrSpace, api.MaxPages: api.ErrSpace} {
		p := grown(t, someTree().with(leafOf(31, next, lives("c", "f")...)))
		wantErrs(t, "no page", p, treeRoot, at("g"), want, "Seek", "Behind", "Leaves", "All")
		wantErrs(t, "no page", p, treeRoot, at("f"), want, "Behind")
		wantFine(t, "no page", p, treeRoot, at("f"), "Path", "Seek", "Find")
		wantFine(t, "no page", p, treeRoot, at("h"), "Path", "Seek", "Behind", "Find")
		// The pages of the tree are all there: it is its link that is wrong.
		wantErrs(t, "no page", p, treeRoot, at("g"), api.ErrNode, "Check")
	}
}

// 13.1: children that the pool can't give, and that their neighbours lead to.
func TestChildrenThatAreNone(t *testing.T) {
	for n, want := range map[api.Page]api.Errno{api.MaxPages + 1: api.ErrArg, math.MaxUint32: api.ErrArg, room + 1: api.ErrSpace} {
		p := grown(t, someTree().with(leafOf(31, n, lives("c", "f")...), innerOf(20, 1, child(30, at("")), child(31, at("c")), child(n, entry("g", 1, 2)))))
		wantErrs(t, "no child", p, treeRoot, at("h"), want)
		wantFine(t, "no child", p, treeRoot, at("f"), "Path", "Seek", "Find")
	}
	// Of an inner page no link tells.
	for n, want := range map[api.Page]api.Errno{0: api.ErrArg, api.MaxPages + 1: api.ErrArg, room + 1: api.ErrSpace} {
		p := grown(t, someTree().with(innerOf(10, 2, child(20, at("")), child(n, entry("m", 5, 5)))))
		wantErrs(t, "no child", p, treeRoot, at("m5"), want, "Path", "Seek", "Behind", "Find", "Check")
		wantAll(t, p, treeRoot, someItems()...)
		p = grown(t, someTree().with(innerOf(10, 2, child(n, at("")), child(21, entry("m", 5, 5)))))
		wantErrs(t, "no child", p, treeRoot, at("a"), want)
	}
}

// The power is off: what is in no frame is not given.
func TestDeadDisk(t *testing.T) {
	p, d := laid(t, someTree(), room, frames)
	if e := p.WriteAll(); e != api.OK {
		t.Fatal("WriteAll:", e)
	}
	for _, n := range []api.Page{20, 31, 35} {
		p.Drop(n)
	}
	d.Crash(api.Fall{})
	wantErrs(t, "off", p, treeRoot, at("a"), api.ErrDead)
	way, e := tree.Path(p, treeRoot, entry("m", 5, 5))
	wantPages(t, "Path", way, e, 10, 21, 33)
	wantErrs(t, "off", p, treeRoot, at("q"), api.ErrDead, "Seek", "Behind")
	wantErrs(t, "off", p, 20, at("q"), api.ErrDead)
	d.Up()
	wantEach(t, p, treeRoot, someItems(), probes(someItems()))
}

// R2: that a way is too long is told ahead of what the pool says of a page behind it.
func TestLongWayFirst(t *testing.T) {
	for n, want := range map[api.Page]api.Errno{0: api.ErrArg, api.MaxPages + 1: api.ErrArg, room + 1: api.ErrSpace} {
		for inner := 1; inner <= 34; inner++ {
			w := chainOf(inner + 1).with(innerOf(api.Page(inner), 1, child(n, at(""))))
			if inner >= 32 {
				want = api.ErrNode
			}
			wantErrs(t, "a long way to no page", grown(t, w), 1, at("a"), want)
		}
	}
}
