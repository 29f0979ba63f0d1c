package index_test

import (
	"math"
	"strings"
	"testing"

	"girder/api"
	"girder/index"
	"girder/page"
	"girder/pool"
)

// wantRangeErr asks a range for an error, and nothing beside it.
func wantRangeErr(t *testing.T, what string, p *pool.Pool, root api.Page, low, high string, want api.Errno) {
	t.Helper()
	for _, unique := range []bool{false, true} {
		f, n, e := index.Range(p, table, api.Index{Root: root, Unique: unique}, low, high)
		if e != want || e != api.OK && len(f)+len(n) != 0 {
			t.Errorf("%s: Range from %q to %q: %+v, %+v, %d, not %d", what, low, high, f, n, e, want)
		}
	}
}

// wantPutErr asks Put for an error, and nothing beside it.
func wantPutErr(t *testing.T, what string, p *pool.Pool, root api.Page, unique bool, en api.Entry, want api.Errno) {
	t.Helper()
	n, twice, e := index.Put(p, table, api.Index{Root: root, Unique: unique}, en)
	if e != want || e != api.OK && (len(n) != 0 || twice) {
		t.Errorf("%s: Put of %+v (unique: %v): %+v, %v, %d, not %d", what, en, unique, n, twice, e, want)
	}
}

// wantErrs asks both for an error, whatever they are asked.
func wantErrs(t *testing.T, what string, p *pool.Pool, root api.Page, want api.Errno) {
	t.Helper()
	for _, k := range []string{"", "a", "c", "z", strings.Repeat("\xff", api.MaxKey+1)} {
		wantRangeErr(t, what, p, root, k, k, want)
		wantRangeErr(t, what, p, root, "", k, want)
		wantRangeErr(t, what, p, root, k, "", want)
		wantPutErr(t, what, p, root, false, of(k, 3), want)
		wantPutErr(t, what, p, root, true, of(k, 3), want)
	}
}

// R1: nil pools.
func TestNilPool(t *testing.T) {
	for _, root := range []api.Page{0, 1, 3, api.MaxPages, api.MaxPages + 1, math.MaxUint32} {
		wantErrs(t, "nil", nil, root, api.ErrArg)
	}
}

// 15.1: roots that are no pages, for which there is no room, and that were never put.
func TestRootsThatAreNone(t *testing.T) {
	p := grown(t, someTree())
	for _, root := range []api.Page{0, api.MaxPages + 1, 2*api.MaxPages + 1, math.MaxUint32} {
		wantErrs(t, "no page", p, root, api.ErrArg)
	}
	for _, root := range []api.Page{room + 1, api.MaxPages} {
		wantErrs(t, "no room", p, root, api.ErrSpace)
	}
	wantErrs(t, "never put", p, room, api.ErrNode)
}

// noTrees is pages that stand in no tree.
func noTrees(n api.Page) map[string]api.Sheet {
	leaf, inner := leafOf(n, 0, live(of("a", 0))), innerOf(n, 1, child(30, at("")))
	leafAsRows, innerAsLeaf, short := leaf, inner, leaf
	leafAsRows.Kind, innerAsLeaf.Kind = api.KindHeap, api.KindLeaf
	short.Slots = []string{"\x01\x00\x00"}
	return map[string]api.Sheet{
		"blank":            page.Blank(n),
		"rows":             leafAsRows,
		"an inner page":    innerAsLeaf,
		"a slot too short": short,
		"no children":      innerOf(n, 1),
		"leads to itself":  innerOf(n, 1, child(n, at(""))),
	}
}

// 15.1: roots that are no pages of a tree.
func TestRootsOfNoTree(t *testing.T) {
	for what, x := range noTrees(3) {
		wantErrs(t, what, grown(t, someTree().with(x)), 3, api.ErrNode)
	}
}

// 15.1: a leaf that is none, or can't be read: only who comes there is told so.
func TestLeafThatIsNone(t *testing.T) {
	junk := strings.Repeat("x", api.PageBytes)
	pools := map[api.Errno]*pool.Pool{api.ErrNode: grown(t, someTree().with(page.Blank(33)))}
	w := someTree()
	delete(w, 33)
	p, d := laid(t, w, room, frames)
	if d.Write(33, junk) != api.OK || d.Write(33+api.MaxPages, junk) != api.OK {
		t.Fatal("disk.Write")
	}
	pools[api.ErrCorrupt] = p
	for want, p := range pools {
		for _, c := range [][2]string{{"", "m"}, {"", "\xff"}, {"b", "c"}, {"c", "c"}, {"c\x00", "c"}, {"d", "l"}, {"l", "a"}, {"m", "m"}, {"z", "n"}} {
			e := want
			if c[0] == "z" {
				e = api.OK
			}
			wantRangeErr(t, "a leaf", p, treeRoot, c[0], c[1], e)
		}
		for _, c := range [][2]string{{"", ""}, {"", "b"}, {"a", "bz"}, {"c", "b"}, {"c", ""}, {"n", "n"}, {"n", "\xff"}, {"z", "z"}} {
			wantRangeErr(t, "a leaf", p, treeRoot, c[0], c[1], api.OK)
		}
		for _, en := range []api.Entry{of("c", 5), of("c", 99), entry("c", 42, 0), at("d"), at("m"), of("m", 6), of("m", 7)} {
			wantPutErr(t, "a leaf", p, treeRoot, false, en, want)
			wantPutErr(t, "a leaf", p, treeRoot, true, en, want)
		}
		// Which items have the key c ends where the next one is; that is not asked of an index that is not unique.
		for _, en := range []api.Entry{at("c"), of("c", 3), of("c", 4)} {
			wantPutErr(t, "a leaf", p, treeRoot, false, en, api.OK)
			wantPutErr(t, "a leaf", p, treeRoot, true, en, want)
		}
		for _, en := range []api.Entry{at("b"), of("b", 2), of("a", 1), of("n", 0), of("z", 13)} {
			wantPutErr(t, "a leaf", p, treeRoot, false, en, api.OK)
			wantPutErr(t, "a leaf", p, treeRoot, true, en, api.OK)
		}
	}
}

// 15.1: an inner page that is none: only who goes down by it is told so, in the midst of a range too.
func TestInnerPageThatIsNone(t *testing.T) {
	p := grown(t, someTree().with(page.Blank(21)))
	wantRangeErr(t, "an inner page", p, treeRoot, "m", "m", api.ErrNode)
	wantRangeErr(t, "an inner page", p, treeRoot, "b", "m", api.ErrNode)
	wantRangeErr(t, "an inner page", p, treeRoot, "t", "t", api.ErrNode)
	wantRangeErr(t, "an inner page", p, treeRoot, "b", "c", api.OK)
	wantPutErr(t, "an inner page", p, treeRoot, false, of("m", 6), api.ErrNode)
	wantPutErr(t, "an inner page", p, treeRoot, true, of("m", 5), api.ErrNode)
	wantPutErr(t, "an inner page", p, treeRoot, false, of("m", 5), api.OK)
	wantPutErr(t, "an inner page", p, treeRoot, true, at("d"), api.OK)
}

// 15.1: all with the key are found, but what is behind the entry is not: nothing of it is told.
func TestNextThatIsNotFound(t *testing.T) {
	p := grown(t, woods{}.with(
		innerOf(10, 2, child(20, at("")), child(21, entry("k", 50, 0))),
		innerOf(20, 1, child(30, at(""))), page.Blank(21),
		leafOf(30, 33, ghost(of("k", 1))), leafOf(33, 0, live(of("m", 2)))))
	wantPutErr(t, "the way of the entry", p, treeRoot, true, entry("k", 60, 0), api.ErrNode)
	wantPutErr(t, "the way of the entry", p, treeRoot, false, entry("k", 60, 0), api.ErrNode)
	wantPut(t, p, someIndex(true), of("k", 9), false, append(read(treeRoot, 1), atOnce(nameAt(treeRoot, 2)))...)
	// A key that is there needs no more than those that have it.
	p = grown(t, woods{}.with(
		innerOf(10, 2, child(20, at("")), child(21, entry("k", 50, 0))),
		innerOf(20, 1, child(30, at(""))), page.Blank(21),
		leafOf(30, 33, live(of("k", 1))), leafOf(33, 0, live(of("m", 2)))))
	wantPut(t, p, someIndex(true), entry("k", 60, 0), true, read(treeRoot, 1)...)
}

// R1: links that lead back, or to pages that are no leaves.
func TestLinksWithoutAnEnd(t *testing.T) {
	for _, next := range []api.Page{35, 30, 10, 20} {
		p := grown(t, someTree().with(leafOf(35, next, live(of("t", 12)), ghost(of("z", 13)))))
		wantRangeErr(t, "links", p, treeRoot, "z", "z", api.ErrNode)
		wantRangeErr(t, "links", p, treeRoot, "", "\xff", api.ErrNode)
		wantRangeErr(t, "links", p, treeRoot, "t", "y", api.OK)
		wantPutErr(t, "links", p, treeRoot, false, of("z", 13), api.ErrNode)
		wantPutErr(t, "links", p, treeRoot, true, at("z"), api.ErrNode)
		wantPutErr(t, "links", p, treeRoot, false, at("z"), api.OK)
		wantPutErr(t, "links", p, treeRoot, true, at("u"), api.OK)
	}
	for next, want := range map[api.Page]api.Errno{api.MaxPages + 1: api.ErrArg, room + 1: api.ErrSpace} {
		p := grown(t, someTree().with(leafOf(35, next, live(of("t", 12)))))
		wantRangeErr(t, "links", p, treeRoot, "t", "t", want)
		wantPutErr(t, "links", p, treeRoot, false, of("t", 12), want)
		wantPutErr(t, "links", p, treeRoot, true, at("t"), want)
	}
}

// 15.1: the power is off: what is not in a frame can't be read.
func TestPowerOff(t *testing.T) {
	p, d := laid(t, someTree(), room, 4)
	if e := p.WriteAll(); e != api.OK {
		t.Fatal("WriteAll:", e)
	}
	for n := range someTree() {
		p.Drop(n)
	}
	d.Crash(api.Fall{})
	wantErrs(t, "the power is off", p, treeRoot, api.ErrDead)
}
