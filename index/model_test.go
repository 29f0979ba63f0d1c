package index_test

import (
	"maps"
	"math/rand"
	"slices"
	"testing"

	"girder/api"
	"girder/index"
	"girder/key"
	"girder/node"
	"girder/tree"
)

// someKey is one of not too many keys, so that the same one comes often.
func someKey(r *rand.Rand) string {
	keys := []string{"", "\x00", "a", "a\x00", "ab", "b", "c", "cc", "d", "e", "\xff", "\xff\xff"}
	return keys[r.Intn(len(keys))]
}

// someEntry is one of not too many entries.
func someEntry(r *rand.Rand) api.Entry {
	return entry(someKey(r), api.Page(r.Intn(3)*255), r.Intn(3)*300)
}

// plan is a tree as a test knows it.
type plan struct {
	pages woods
	root  api.Page
	items []api.Item
}

// part is a page of a plan, and where it begins.
type part struct {
	from api.Entry
	page api.Page
}

// planted is a tree that is well formed: of entries that rise some are where leaves begin, others are items, some are both.
func planted(r *rand.Rand) plan {
	var l []api.Entry
	for range r.Intn(60) {
		l = append(l, someEntry(r))
	}
	slices.SortFunc(l, key.Entries)
	l = slices.Compact(l)
	free := r.Perm(200)
	fresh := func() api.Page {
		n := api.Page(free[0] + 1)
		free = free[1:]
		return n
	}
	pl := plan{pages: woods{}}
	row := []part{{api.Entry{}, fresh()}}
	var held []api.Item
	for _, en := range l {
		if en != (api.Entry{}) && (r.Intn(3) == 0 || len(held) == 20) {
			n := fresh()
			last := row[len(row)-1].page
			pl.pages[last] = leafOf(last, n, held...)
			row, held = append(row, part{en, n}), nil
		}
		if r.Intn(3) > 0 {
			x := api.Item{Entry: en, Live: r.Intn(2) == 0}
			held = append(held, x)
			pl.items = append(pl.items, x)
		}
	}
	last := row[len(row)-1].page
	pl.pages[last] = leafOf(last, 0, held...)
	for level := byte(1); len(row) > 1; level++ {
		row = pl.above(r, level, row, fresh)
	}
	pl.root = row[0].page
	return pl
}

// above puts inner pages over a row of pages.
func (pl plan) above(r *rand.Rand, level byte, row []part, fresh func() api.Page) []part {
	var up []part
	for len(row) > 0 {
		long := min(1+r.Intn(5), len(row))
		// A row that does not get shorter would have no end.
		if level > 3 {
			long = min(5, len(row))
		}
		x := part{row[0].from, fresh()}
		var kids []api.Child
		for i, y := range row[:long] {
			kids = append(kids, child(y.page, y.from))
			if i == 0 {
				kids[0].From = api.Entry{}
			}
		}
		pl.pages[x.page] = innerOf(x.page, level, kids...)
		up, row = append(up, x), row[long:]
	}
	return up
}

// scan is a range by the chapter's words, over all items.
func (pl plan) scan(low, high string) ([]api.Entry, []api.Need) {
	var found []api.Entry
	var needs []api.Need
	for _, x := range pl.items {
		if x.Entry.Key < low {
			continue
		}
		needs = append(needs, api.Need{Name: api.Name{Kind: api.NameRow, Of: table, RID: x.Entry.RID}, Mode: api.ModeS})
		if x.Entry.Key > high {
			return found, needs
		}
		if x.Live {
			found = append(found, x.Entry)
		}
	}
	return found, append(needs, api.Need{Name: api.Name{Kind: api.NameEnd, Of: int(pl.root)}, Mode: api.ModeS})
}

// put is what an entry that is put in needs by the chapter's words, over all items.
func (pl plan) put(en api.Entry, unique bool) ([]api.Need, bool) {
	var needs []api.Need
	twice := false
	for _, x := range pl.items {
		if unique && x.Entry.Key == en.Key && x.Entry.RID != en.RID {
			needs = append(needs, api.Need{Name: api.Name{Kind: api.NameRow, Of: table, RID: x.Entry.RID}, Mode: api.ModeS})
			twice = twice || x.Live
		}
	}
	if twice {
		return needs, true
	}
	next := api.Name{Kind: api.NameEnd, Of: int(pl.root)}
	if i := slices.IndexFunc(pl.items, func(x api.Item) bool { return key.Entries(x.Entry, en) > 0 }); i >= 0 {
		next = api.Name{Kind: api.NameRow, Of: table, RID: pl.items[i].Entry.RID}
	}
	return append(needs, atOnce(next)), false
}

// 15.1: trees that are well formed, over pools of all sizes, against the words.
func TestTreesAgainstLists(t *testing.T) {
	r := rand.New(rand.NewSource(15))
	for range 400 {
		pl := planted(r)
		p, _ := laid(t, pl.pages, 200, 4+r.Intn(60))
		p.Picks(r.Perm(100))
		if _, e := tree.Check(p, pl.root); e != api.OK {
			t.Fatal("a tree of this test is not well formed")
		}
		for range 20 {
			low, high := someKey(r), someKey(r)
			found, needs := pl.scan(low, high)
			wantRange(t, p, api.Index{Root: pl.root, Unique: r.Intn(2) == 0}, low, high, found, needs)
			en := someEntry(r)
			for _, unique := range []bool{false, true} {
				needs, twice := pl.put(en, unique)
				wantPut(t, p, api.Index{Root: pl.root, Unique: unique}, en, twice, needs...)
			}
		}
	}
}

// hurt changes one page of a tree somehow.
func hurt(r *rand.Rand, pl plan) plan {
	numbers := slices.Sorted(maps.Keys(pl.pages))
	some := func() api.Page { return numbers[r.Intn(len(numbers))] }
	n := some()
	x := pl.pages[n]
	if items, e := node.Leaf(x); e == api.OK {
		next := []api.Page{0, some(), node.Next(x)}[r.Intn(3)]
		r.Shuffle(len(items), func(i, j int) { items[i], items[j] = items[j], items[i] })
		pl.pages = pl.pages.with(leafOf(n, next, items...))
		return pl
	}
	kids, _ := node.Inner(x)
	if len(kids) > 0 {
		kids[r.Intn(len(kids))] = child(some(), someEntry(r))
	}
	pl.pages = pl.pages.with(innerOf(n, byte(node.Level(x)), kids...))
	return pl
}

// R1, R2: trees of which some pages were changed: all calls end, and tell nothing beside an error.
func TestHurtTrees(t *testing.T) {
	r := rand.New(rand.NewSource(51))
	bad := 0
	for range 3000 {
		pl := planted(r)
		for range 1 + r.Intn(4) {
			pl = hurt(r, pl)
		}
		p, _ := laid(t, pl.pages, 200, 4+r.Intn(60))
		ix := api.Index{Root: pl.root, Unique: r.Intn(2) == 0}
		found, needs, e := index.Range(p, table, ix, someKey(r), someKey(r))
		if e != api.OK && (e != api.ErrNode || len(found)+len(needs) != 0) {
			t.Errorf("Range: %+v, %+v, %d", found, needs, e)
		}
		more, twice, e1 := index.Put(p, table, ix, someEntry(r))
		if e1 != api.OK && (e1 != api.ErrNode || len(more) != 0 || twice) {
			t.Errorf("Put: %+v, %v, %d", more, twice, e1)
		}
		if e != api.OK || e1 != api.OK {
			bad++
		}
	}
	if bad < 300 {
		t.Errorf("%d trees that can't be gone through: too few", bad)
	}
}
