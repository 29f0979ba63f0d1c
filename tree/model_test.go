package tree_test

import (
	"maps"
	"math/rand"
	"slices"
	"testing"

	"girder/api"
	"girder/key"
	"girder/node"
	"girder/pool"
	"girder/tree"
)

// someEntry is one of not too many entries, so that the same one comes often.
func someEntry(r *rand.Rand) api.Entry {
	keys := []string{"", "\x00", "a", "a\x00", "ab", "b", "c", "cc", "d", "e", "\xff", "\xff\xff"}
	return entry(keys[r.Intn(len(keys))], api.Page(r.Intn(3)*255), r.Intn(3)*300)
}

// rising is so many entries at most, none twice, in their order.
func rising(r *rand.Rand, most int) []api.Entry {
	var l []api.Entry
	for range most {
		l = append(l, someEntry(r))
	}
	slices.SortFunc(l, key.Entries)
	return slices.Compact(l)
}

// plan is a tree as a test knows it.
type plan struct {
	pages  woods
	root   api.Page
	order  []api.Page // each page ahead of its children
	leaves []api.Page
	items  []api.Item
}

// part is a page of a plan, where it begins, and the pages below it.
type part struct {
	from  api.Entry
	order []api.Page
}

// planted is a tree that is well formed: of entries that rise some are where leaves begin, others are items, some are both.
func planted(r *rand.Rand) plan {
	free := r.Perm(200)
	fresh := func() api.Page {
		n := api.Page(free[0] + 1)
		free = free[1:]
		return n
	}
	pl := plan{pages: woods{}}
	var row []part
	var held []api.Item
	shut := func(next api.Page) {
		n := row[len(row)-1].order[0]
		pl.pages[n] = leafOf(n, next, held...)
		held = nil
	}
	begin := func(from api.Entry) {
		n := fresh()
		if len(row) > 0 {
			shut(n)
		}
		row = append(row, part{from, []api.Page{n}})
		pl.leaves = append(pl.leaves, n)
	}
	begin(api.Entry{})
	for _, en := range rising(r, r.Intn(60)) {
		if en != (api.Entry{}) && (r.Intn(3) == 0 || len(held) == 20) {
			begin(en)
		}
		if r.Intn(3) > 0 {
			x := api.Item{Entry: en, Live: r.Intn(2) == 0}
			held = append(held, x)
			pl.items = append(pl.items, x)
		}
	}
	shut(0)
	for level := byte(1); len(row) > 1 || r.Intn(4) == 0 && level < 5; level++ {
		row = pl.above(r, level, row, fresh)
	}
	pl.root, pl.order = row[0].order[0], row[0].order
	return pl
}

// above puts inner pages over a row of pages.
func (pl plan) above(r *rand.Rand, level byte, row []part, fresh func() api.Page) []part {
	var up []part
	for len(row) > 0 {
		long := min(1+r.Intn(5), len(row))
		// A row that does not get shorter would have no end.
		if level > 3 {
			long = min(5, len(row))
		}
		n := fresh()
		x := part{row[0].from, []api.Page{n}}
		var kids []api.Child
		for i, y := range row[:long] {
			kids = append(kids, child(y.order[0], y.from))
			if i == 0 {
				kids[0].From = api.Entry{}
			}
			x.order = append(x.order, y.order...)
		}
		pl.pages[n] = innerOf(n, level, kids...)
		up, row = append(up, x), row[long:]
	}
	return up
}

// someProbes is entries that are asked for.
func someProbes(r *rand.Rand, l []api.Item) []api.Entry {
	var all []api.Entry
	for range 20 {
		all = append(all, someEntry(r))
	}
	if len(l) > 0 {
		all = append(all, probes(l[r.Intn(len(l)):][:1])...)
	}
	return all
}

// 13.1, 13.2: trees that are well formed, over pools of all sizes.
func TestTreesAgainstLists(t *testing.T) {
	r := rand.New(rand.NewSource(13))
	for range 400 {
		pl := planted(r)
		p, _ := laid(t, pl.pages, 200, 4+r.Intn(60))
		p.Picks(r.Perm(100))
		pages, e := tree.Check(p, pl.root)
		wantPages(t, "Check", pages, e, pl.order...)
		leaves, e := tree.Leaves(p, pl.root)
		wantPages(t, "Leaves", leaves, e, pl.leaves...)
		wantAll(t, p, pl.root, pl.items...)
		all, _ := tree.All(p, pl.root)
		asked := someProbes(r, pl.items)
		wantEach(t, p, pl.root, all, asked)
		wantWays(t, p, pl, asked)
		wantWalk(t, p, pl)
	}
}

// wantWays asks for ways: each step by node.Down, and what stands in the tree in the leaf at the end.
func wantWays(t *testing.T, p *pool.Pool, pl plan, asked []api.Entry) {
	t.Helper()
	for _, en := range asked {
		want := []api.Page{pl.root}
		for {
			kids, e := node.Inner(pl.pages[want[len(want)-1]])
			if e != api.OK {
				break
			}
			want = append(want, kids[node.Down(kids, en)].Page)
		}
		way, e := tree.Path(p, pl.root, en)
		wantPages(t, "Path", way, e, want...)
	}
	for _, x := range pl.items {
		way, _ := tree.Path(p, pl.root, x.Entry)
		l, e := node.Leaf(pl.pages[way[len(way)-1]])
		if e != api.OK || !slices.Contains(l, x) {
			t.Errorf("%+v does not stand at the end of its way %v", x, way)
		}
	}
}

// wantWalk goes from item to item: Seek of the zero entry, and Behind of what was found.
func wantWalk(t *testing.T, p *pool.Pool, pl plan) {
	t.Helper()
	x, is, e := tree.Seek(p, pl.root, api.Entry{})
	for _, y := range pl.items {
		wantItem(t, "item by item", x, is, e, y)
		x, is, e = tree.Behind(p, pl.root, y.Entry)
	}
	wantNone(t, "behind the last one", x, is, e)
}

// kept is a page as it is met from the root on: where it begins, and how deep it stands.
type kept struct {
	n     api.Page
	depth int
	begin api.Entry
}

// through is all pages of a tree, each ahead of its children; false, if one is none of a tree, or there are too many.
func (pl plan) through(x kept, l []kept) ([]kept, bool) {
	if x.depth >= 32 || len(l) > 1000 {
		return l, false
	}
	l = append(l, x)
	s := pl.pages[x.n]
	if _, e := node.Leaf(s); e == api.OK {
		return l, true
	}
	kids, e := node.Inner(s)
	if e != api.OK || len(kids) == 0 {
		return l, false
	}
	for i, c := range kids {
		y := kept{c.Page, x.depth + 1, c.From}
		if i == 0 {
			y.begin = x.begin
		}
		ok := false
		if l, ok = pl.through(y, l); !ok {
			return l, false
		}
	}
	return l, true
}

// formed tells by the chapter's words whether a tree is well formed, one by one.
func (pl plan) formed() ([]api.Page, bool) {
	all, ok := pl.through(kept{n: pl.root}, nil)
	if !ok {
		return nil, false
	}
	var order []api.Page
	deepest := 0
	for _, x := range all {
		order = append(order, x.n)
		deepest = max(deepest, x.depth)
	}
	met := slices.Sorted(slices.Values(order))
	if len(slices.Compact(met)) != len(order) {
		return nil, false
	}
	for depth := range deepest + 1 {
		row := slices.DeleteFunc(slices.Clone(all), func(x kept) bool { return x.depth != depth })
		for i, x := range row {
			if !pl.fits(x, deepest-depth, row[i+1:]) {
				return nil, false
			}
		}
	}
	return order, true
}

// fits tells whether a page is right by itself, among those of its level behind it.
func (pl plan) fits(x kept, level int, behind []kept) bool {
	s := pl.pages[x.n]
	within := func(e api.Entry) bool {
		return key.Entries(e, x.begin) >= 0 && (len(behind) == 0 || key.Entries(e, behind[0].begin) < 0)
	}
	var entries []api.Entry
	if items, e := node.Leaf(s); e == api.OK {
		next := api.Page(0)
		if len(behind) > 0 {
			next = behind[0].n
		}
		if level != 0 || node.Next(s) != next {
			return false
		}
		for _, y := range items {
			entries = append(entries, y.Entry)
		}
	} else {
		kids, _ := node.Inner(s)
		if level < 1 || node.Level(s) != level || kids[0].From != (api.Entry{}) || len(kids) > 1 && kids[1].From == (api.Entry{}) {
			return false
		}
		for _, y := range kids[1:] {
			entries = append(entries, y.From)
		}
	}
	for i, e := range entries {
		if !within(e) || i > 0 && key.Entries(entries[i-1], e) >= 0 {
			return false
		}
	}
	return true
}

// hurt changes one page of a tree somehow.
func hurt(r *rand.Rand, pl plan) plan {
	numbers := slices.Sorted(maps.Keys(pl.pages))
	some := func() api.Page { return numbers[r.Intn(len(numbers))] }
	n := some()
	x := pl.pages[n]
	items, noLeaf := node.Leaf(x)
	kids, noInner := node.Inner(x)
	switch {
	case noLeaf == api.OK && (len(items) == 0 || r.Intn(3) == 0):
		x = leafOf(n, []api.Page{0, some()}[r.Intn(2)], items...)
	case noLeaf == api.OK:
		i, j := r.Intn(len(items)), r.Intn(len(items))
		switch r.Intn(3) {
		case 0:
			items[i], items[j] = items[j], items[i]
		case 1:
			items[i].Entry = someEntry(r)
		default:
			items = slices.Delete(items, i, i+1)
		}
		x = leafOf(n, node.Next(x), items...)
	case noInner == api.OK && len(kids) > 0:
		x = hurtInner(r, n, node.Level(x), kids, some())
	}
	pl.pages = pl.pages.with(x)
	return pl
}

// hurtInner changes an inner page somehow.
func hurtInner(r *rand.Rand, n api.Page, level int, kids []api.Child, some api.Page) api.Sheet {
	i, j := r.Intn(len(kids)), r.Intn(len(kids))
	switch r.Intn(8) {
	case 0:
		kids[i].Page = some
	case 1, 2:
		kids[i].From = someEntry(r)
	case 3:
		kids[i], kids[j] = kids[j], kids[i]
	case 4:
		kids[i].Page, kids[j].Page = kids[j].Page, kids[i].Page
	case 5:
		kids = slices.Delete(kids, i, i+1)
	case 6:
		level += 1 - 2*r.Intn(2)
	default:
		kids[i].From = kids[j].From
	}
	return innerOf(n, byte(level), kids...)
}

// 13.1, R1: trees of which some pages were changed: Check against the words, and all calls end.
func TestHurtTrees(t *testing.T) {
	r := rand.New(rand.NewSource(31))
	good, bad := 0, 0
	for range 4000 {
		pl := planted(r)
		for range 1 + r.Intn(2) {
			pl = hurt(r, pl)
		}
		p, _ := laid(t, pl.pages, 200, 4+r.Intn(60))
		pages, e := tree.Check(p, pl.root)
		if order, ok := pl.formed(); ok {
			good++
			wantPages(t, "Check", pages, e, order...)
			all, e := tree.All(p, pl.root)
			if e != api.OK {
				t.Error("All:", e)
			}
			wantEach(t, p, pl.root, all, someProbes(r, all))
		} else {
			bad++
			if e != api.ErrNode || len(pages) != 0 {
				t.Errorf("Check of a tree that is not well formed: %v, %d", pages, e)
			}
		}
		for _, c := range calls() {
			if none, e := c.do(p, pl.root, someEntry(r)); e != api.OK && (e != api.ErrNode || !none) {
				t.Errorf("%s: %d, nothing beside it: %v", c.name, e, none)
			}
		}
	}
	if good < 400 || bad < 400 {
		t.Errorf("%d trees that are well formed, %d that are not: too few", good, bad)
	}
}
