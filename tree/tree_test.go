package tree_test

import (
	"encoding/binary"
	"maps"
	"math"
	"slices"
	"strings"
	"testing"

	"girder/api"
	"girder/disk"
	"girder/key"
	"girder/page"
	"girder/pool"
	"girder/tree"
	"girder/wal"
)

const (
	room   = 64            // pages of the disks of these tests, where nothing else is said
	frames = api.MaxFrames // of their pools
)

// entry is a key and a place.
func entry(key string, n api.Page, slot int) api.Entry {
	return api.Entry{Key: key, RID: api.RID{Page: n, Slot: slot}}
}

// at is the entry of a key at the place zero.
func at(key string) api.Entry { return entry(key, 0, 0) }

func live(e api.Entry) api.Item  { return api.Item{Entry: e, Live: true} }
func ghost(e api.Entry) api.Item { return api.Item{Entry: e} }

// lives is live items of keys.
func lives(keys ...string) []api.Item {
	var l []api.Item
	for _, k := range keys {
		l = append(l, live(at(k)))
	}
	return l
}

func child(n api.Page, from api.Entry) api.Child { return api.Child{Page: n, From: from} }

// entryBytes is an entry by the words of chapter 12: Page 4, Slot 2, the key.
func entryBytes(e api.Entry) string {
	b := binary.LittleEndian.AppendUint32(nil, uint32(e.RID.Page))
	b = binary.LittleEndian.AppendUint16(b, uint16(e.RID.Slot))
	return string(append(b, e.Key...))
}

// leafOf is a leaf, its bytes laid by the words of chapter 12.
func leafOf(n, next api.Page, l ...api.Item) api.Sheet {
	x := api.Sheet{Number: n, LSN: 1, Kind: api.KindLeaf, Head: string(binary.LittleEndian.AppendUint32(nil, uint32(next)))}
	for _, y := range l {
		first := "\x00"
		if y.Live {
			first = "\x01"
		}
		x.Slots = append(x.Slots, first+entryBytes(y.Entry))
	}
	return x
}

// innerOf is an inner page, its bytes laid by the words of chapter 12.
func innerOf(n api.Page, level byte, l ...api.Child) api.Sheet {
	x := api.Sheet{Number: n, LSN: 1, Kind: api.KindInner, Head: string([]byte{level})}
	for _, y := range l {
		x.Slots = append(x.Slots, string(binary.LittleEndian.AppendUint32(nil, uint32(y.Page)))+entryBytes(y.From))
	}
	return x
}

// woods is pages by their numbers.
type woods map[api.Page]api.Sheet

// with is the same pages, but for some.
func (w woods) with(l ...api.Sheet) woods {
	w = maps.Clone(w)
	for _, x := range l {
		w[x.Number] = x
	}
	return w
}

// laid is a pool that has pages, and nothing else, and the disk below it.
func laid(t *testing.T, w woods, room, frames int) (*pool.Pool, *disk.Disk) {
	t.Helper()
	d, e := disk.New(room)
	if e != api.OK {
		t.Fatal("disk.New:", e)
	}
	l, _, e := wal.Open(d)
	if e != api.OK {
		t.Fatal("wal.Open:", e)
	}
	p, e := pool.New(d, l, frames)
	if e != api.OK {
		t.Fatal("pool.New:", e)
	}
	for _, n := range slices.Sorted(maps.Keys(w)) {
		if e := p.Put(w[n]); e != api.OK {
			t.Fatalf("page %d: %d", n, e)
		}
	}
	return p, d
}

// grown is a pool that has pages.
func grown(t *testing.T, w woods) *pool.Pool {
	t.Helper()
	p, _ := laid(t, w, room, frames)
	return p
}

// treeRoot is the root of the tree of most tests.
const treeRoot api.Page = 10

// someTree is that tree: three levels, leaves that are empty, ghosts beside live items, a key at several places.
func someTree() woods {
	return woods{}.with(
		innerOf(10, 2, child(20, at("")), child(21, entry("m", 5, 5))),
		innerOf(20, 1, child(30, at("")), child(31, at("c")), child(32, entry("g", 1, 2))),
		innerOf(21, 1, child(33, at("")), child(34, at("p")), child(35, at("t"))),
		leafOf(30, 31, live(at("")), ghost(entry("a", 0, 1)), live(at("bz"))),
		leafOf(31, 32, live(at("c")), ghost(entry("c", 0, 1)), live(at("f"))),
		leafOf(32, 33),
		leafOf(33, 34, live(entry("m", 5, 5)), ghost(entry("m", 5, 6)), live(at("o"))),
		leafOf(34, 35),
		leafOf(35, 0, ghost(at("t")), live(entry("z", 9, 9))),
	)
}

// someItems is the items of that tree, in their order.
func someItems() []api.Item {
	return []api.Item{
		live(at("")), ghost(entry("a", 0, 1)), live(at("bz")),
		live(at("c")), ghost(entry("c", 0, 1)), live(at("f")),
		live(entry("m", 5, 5)), ghost(entry("m", 5, 6)), live(at("o")),
		ghost(at("t")), live(entry("z", 9, 9)),
	}
}

// probes is entries at, just ahead of and just behind those of items, and far from them.
func probes(l []api.Item) []api.Entry {
	all := []api.Entry{at(""), at("\x00"), at("a"), at("c"), at("g"), entry("g", 1, 1), entry("g", 1, 2), entry("g", 1, 3), at("m"), at("p"), at("q"), at("t"), at("z"), at("zz"), at("\xff"),
		at(strings.Repeat("c", api.MaxKey)), at(strings.Repeat("\xff", api.MaxKey+1)), entry("", 0, -1), entry("", 0, math.MinInt), entry("\xff\xff", math.MaxUint32, math.MaxInt)}
	for _, x := range l {
		en := x.Entry
		all = append(all, en, entry(en.Key, en.RID.Page, en.RID.Slot-1), entry(en.Key, en.RID.Page, en.RID.Slot+1), entry(en.Key, en.RID.Page+1, 0), entry(en.Key+"\x00", 0, 0), at(en.Key))
		all = append(all, entry(en.Key, en.RID.Page, en.RID.Slot+65536), entry(en.Key, en.RID.Page, math.MaxInt))
	}
	return all
}

// wantPages asks for pages.
func wantPages(t *testing.T, what string, l []api.Page, e api.Errno, want ...api.Page) {
	t.Helper()
	if e != api.OK || !slices.Equal(l, want) {
		t.Errorf("%s: %v, %d, not %v", what, l, e, want)
	}
}

// wantAll asks for all items.
func wantAll(t *testing.T, p *pool.Pool, root api.Page, want ...api.Item) {
	t.Helper()
	if l, e := tree.All(p, root); e != api.OK || !slices.Equal(l, want) {
		t.Errorf("All: %+v, %d, not %+v", l, e, want)
	}
}

// wantItem asks for an item.
func wantItem(t *testing.T, what string, x api.Item, is bool, e api.Errno, want api.Item) {
	t.Helper()
	if x != want || !is || e != api.OK {
		t.Errorf("%s: %+v, %v, %d, not %+v", what, x, is, e, want)
	}
}

// wantNone asks for no item, and no error.
func wantNone(t *testing.T, what string, x api.Item, is bool, e api.Errno) {
	t.Helper()
	if x != (api.Item{}) || is || e != api.OK {
		t.Errorf("%s: %+v, %v, %d, not none", what, x, is, e)
	}
}

// wantFirst asks for the first of items that is as wanted, or none.
func wantFirst(t *testing.T, what string, x api.Item, is bool, e api.Errno, l []api.Item, wanted func(x api.Item) bool) {
	t.Helper()
	for _, y := range l {
		if wanted(y) {
			wantItem(t, what, x, is, e, y)
			return
		}
	}
	wantNone(t, what, x, is, e)
}

// wantEach asks Seek, Behind and Find of entries for what the items tell, 13.2.
func wantEach(t *testing.T, p *pool.Pool, root api.Page, l []api.Item, asked []api.Entry) {
	t.Helper()
	for _, en := range asked {
		x, is, e := tree.Seek(p, root, en)
		wantFirst(t, "Seek", x, is, e, l, func(y api.Item) bool { return key.Entries(y.Entry, en) >= 0 })
		x, is, e = tree.Behind(p, root, en)
		wantFirst(t, "Behind", x, is, e, l, func(y api.Item) bool { return key.Entries(y.Entry, en) > 0 })
		x, is, e = tree.Find(p, root, en)
		wantFirst(t, "Find", x, is, e, l, func(y api.Item) bool { return y.Entry == en })
	}
}

// call is a call of the package: whether it told nothing beside its error, and that.
type call struct {
	name string
	do   func(p *pool.Pool, root api.Page, en api.Entry) (bool, api.Errno)
}

// ofPages, ofItems and ofOne make calls of functions.
func ofPages(name string, f func(p *pool.Pool, root api.Page, en api.Entry) ([]api.Page, api.Errno)) call {
	return call{name, func(p *pool.Pool, root api.Page, en api.Entry) (bool, api.Errno) {
		l, e := f(p, root, en)
		return len(l) == 0, e
	}}
}

func ofItems(name string, f func(p *pool.Pool, root api.Page) ([]api.Item, api.Errno)) call {
	return call{name, func(p *pool.Pool, root api.Page, en api.Entry) (bool, api.Errno) {
		l, e := f(p, root)
		return len(l) == 0, e
	}}
}

func ofOne(name string, f func(p *pool.Pool, root api.Page, en api.Entry) (api.Item, bool, api.Errno)) call {
	return call{name, func(p *pool.Pool, root api.Page, en api.Entry) (bool, api.Errno) {
		x, is, e := f(p, root, en)
		return x == (api.Item{}) && !is, e
	}}
}

// calls is all calls, by their names.
func calls() map[string]call {
	all := map[string]call{}
	for _, c := range []call{
		ofPages("Path", tree.Path), ofOne("Seek", tree.Seek), ofOne("Behind", tree.Behind), ofOne("Find", tree.Find),
		ofPages("Leaves", func(p *pool.Pool, root api.Page, _ api.Entry) ([]api.Page, api.Errno) { return tree.Leaves(p, root) }),
		ofItems("All", tree.All),
		ofPages("Check", func(p *pool.Pool, root api.Page, _ api.Entry) ([]api.Page, api.Errno) { return tree.Check(p, root) }),
	} {
		all[c.name] = c
	}
	return all
}

// wantErrs asks calls (all, if none is named) for an error, and nothing beside it.
func wantErrs(t *testing.T, what string, p *pool.Pool, root api.Page, en api.Entry, want api.Errno, names ...string) {
	t.Helper()
	all := calls()
	if len(names) == 0 {
		names = slices.Sorted(maps.Keys(all))
	}
	for _, name := range names {
		if none, e := all[name].do(p, root, en); e != want || !none {
			t.Errorf("%s: %s: %d, not %d; nothing beside it: %v", what, name, e, want, none)
		}
	}
}

// wantFine asks calls for no error.
func wantFine(t *testing.T, what string, p *pool.Pool, root api.Page, en api.Entry, names ...string) {
	t.Helper()
	for _, name := range names {
		if _, e := calls()[name].do(p, root, en); e != api.OK {
			t.Errorf("%s: %s: %d", what, name, e)
		}
	}
}

// The chapter's example.
func TestExample(t *testing.T) {
	p := grown(t, woods{}.with(leafOf(3, 0, lives("a", "c")...)))
	x, is, e := tree.Seek(p, 3, at("b"))
	wantItem(t, "Seek", x, is, e, live(at("c")))
	x, is, e = tree.Behind(p, 3, at("c"))
	wantNone(t, "Behind", x, is, e)
}

// 13.1, 13.2: a root that is a leaf, with no item, one, several, and as many as fit.
func TestRootIsALeaf(t *testing.T) {
	var many []api.Item
	for i := range 50 {
		many = append(many, api.Item{Entry: entry("", 7, i), Live: i%3 != 0})
	}
	for _, l := range [][]api.Item{
		nil,
		{live(at(""))},
		{ghost(at("m"))},
		{live(at("m"))},
		lives("a", "c"),
		{ghost(at("a")), live(entry("a", 0, 1)), live(entry("a", 1, 0)), ghost(at("a\x00")), live(at("b")), ghost(at("\xff"))},
		many,
	} {
		p := grown(t, woods{}.with(leafOf(3, 0, l...)))
		for _, en := range probes(l) {
			way, e := tree.Path(p, 3, en)
			wantPages(t, "Path", way, e, 3)
		}
		wantEach(t, p, 3, l, probes(l))
		leaves, e := tree.Leaves(p, 3)
		wantPages(t, "Leaves", leaves, e, 3)
		wantAll(t, p, 3, l...)
		pages, e := tree.Check(p, 3)
		wantPages(t, "Check", pages, e, 3)
	}
}

// 13.1: a tree with one inner page, with one child and with several.
func TestOneInnerPage(t *testing.T) {
	p := grown(t, woods{}.with(innerOf(9, 1, child(3, at(""))), leafOf(3, 0, lives("a", "c")...)))
	for _, en := range probes(lives("a", "c")) {
		way, e := tree.Path(p, 9, en)
		wantPages(t, "Path", way, e, 9, 3)
	}
	wantEach(t, p, 9, lives("a", "c"), probes(lives("a", "c")))
	p = grown(t, woods{}.with(
		innerOf(3, 1, child(9, at("")), child(4, at("c")), child(7, entry("c", 1, 1)), child(5, at("e"))),
		leafOf(9, 4, live(at("")), ghost(at("b"))), leafOf(4, 7, live(at("c"))), leafOf(7, 5), leafOf(5, 0, ghost(entry("e", 0, 1)), live(at("f")))))
	all := []api.Item{live(at("")), ghost(at("b")), live(at("c")), ghost(entry("e", 0, 1)), live(at("f"))}
	for _, c := range []struct {
		en   api.Entry
		leaf api.Page
	}{
		{at(""), 9}, {at("b\xff"), 9}, {entry("c", 0, -1), 9}, {at("c"), 4}, {entry("c", 0, 9), 4}, {entry("c", 1, 0), 4}, {entry("c", 1, 1), 7}, {entry("c", 1, 2), 7}, {at("d"), 7}, {entry("e", 0, -1), 7}, {at("e"), 5}, {at("f"), 5}, {at("z"), 5},
	} {
		way, e := tree.Path(p, 3, c.en)
		wantPages(t, "Path", way, e, 3, c.leaf)
	}
	wantEach(t, p, 3, all, probes(all))
	leaves, e := tree.Leaves(p, 3)
	wantPages(t, "Leaves", leaves, e, 9, 4, 7, 5)
	wantAll(t, p, 3, all...)
	pages, e := tree.Check(p, 3)
	wantPages(t, "Check", pages, e, 3, 9, 4, 7, 5)
}

// 13.1: ways in a tree of three levels: each entry just ahead of where a child begins, and there.
func TestPathOfSeveralLevels(t *testing.T) {
	p := grown(t, someTree())
	for _, c := range []struct {
		en          api.Entry
		inner, leaf api.Page
	}{
		{at(""), 20, 30}, {entry("", 0, math.MinInt), 20, 30}, {at("a"), 20, 30}, {at("bz"), 20, 30}, {at("b\xff"), 20, 30}, {entry("c", 0, -1), 20, 30},
		{at("c"), 20, 31}, {at("f"), 20, 31}, {at("g"), 20, 31}, {entry("g", 1, 1), 20, 31}, {entry("g", 0, 9), 20, 31},
		{entry("g", 1, 2), 20, 32}, {at("h"), 20, 32}, {at("m"), 20, 32}, {entry("m", 5, 4), 20, 32}, {entry("m", 4, 9), 20, 32},
		{entry("m", 5, 5), 21, 33}, {entry("m", 6, 0), 21, 33}, {at("o"), 21, 33}, {at("o\xff"), 21, 33}, {entry("p", 0, -1), 21, 33},
		{at("p"), 21, 34}, {at("s"), 21, 34}, {at("t"), 21, 35}, {at("z"), 21, 35}, {at("zz"), 21, 35}, {entry("\xff", math.MaxUint32, math.MaxInt), 21, 35},
	} {
		way, e := tree.Path(p, treeRoot, c.en)
		wantPages(t, "Path", way, e, 10, c.inner, c.leaf)
	}
	// Each page below the root is the root of a tree, too.
	way, e := tree.Path(p, 21, at("a"))
	wantPages(t, "Path", way, e, 21, 33)
}

// 13.1: Seek, Behind and Find by hand: ahead of all, on an item, between two, behind all of a leaf, over empty leaves, behind all.
func TestSeveralLevels(t *testing.T) {
	p := grown(t, someTree())
	none := api.Item{}
	for _, c := range []struct {
		en           api.Entry
		seek, behind api.Item
		stands       bool
	}{
		{entry("", 0, -1), live(at("")), live(at("")), false},
		{at(""), live(at("")), ghost(entry("a", 0, 1)), true},
		{at("a"), ghost(entry("a", 0, 1)), ghost(entry("a", 0, 1)), false},
		{entry("a", 0, 1), ghost(entry("a", 0, 1)), live(at("bz")), true},
		{at("b"), live(at("bz")), live(at("bz")), false},
		{at("bz"), live(at("bz")), live(at("c")), true},
		{at("bzz"), live(at("c")), live(at("c")), false},
		{at("c"), live(at("c")), ghost(entry("c", 0, 1)), true},
		{at("f"), live(at("f")), live(entry("m", 5, 5)), true},
		{at("fa"), live(entry("m", 5, 5)), live(entry("m", 5, 5)), false},
		{at("h"), live(entry("m", 5, 5)), live(entry("m", 5, 5)), false},
		{entry("m", 5, 4), live(entry("m", 5, 5)), live(entry("m", 5, 5)), false},
		{entry("m", 5, 5), live(entry("m", 5, 5)), ghost(entry("m", 5, 6)), true},
		{at("o"), live(at("o")), ghost(at("t")), true},
		{at("oo"), ghost(at("t")), ghost(at("t")), false},
		{at("q"), ghost(at("t")), ghost(at("t")), false},
		{at("t"), ghost(at("t")), live(entry("z", 9, 9)), true},
		{at("z"), live(entry("z", 9, 9)), live(entry("z", 9, 9)), false},
		{entry("z", 9, 9), live(entry("z", 9, 9)), none, true},
		{entry("z", 9, 10), none, none, false},
		{at("zz"), none, none, false},
	} {
		x, is, e := tree.Seek(p, treeRoot, c.en)
		if x != c.seek || is != (c.seek != none) || e != api.OK {
			t.Errorf("Seek of %+v: %+v, %v, %d", c.en, x, is, e)
		}
		x, is, e = tree.Behind(p, treeRoot, c.en)
		if x != c.behind || is != (c.behind != none) || e != api.OK {
			t.Errorf("Behind %+v: %+v, %v, %d", c.en, x, is, e)
		}
		x, is, e = tree.Find(p, treeRoot, c.en)
		if c.stands {
			wantItem(t, "Find", x, is, e, c.seek)
		} else {
			wantNone(t, "Find", x, is, e)
		}
	}
	wantEach(t, p, treeRoot, someItems(), probes(someItems()))
}

// 13.1: Leaves, All and Check of a tree of three levels.
func TestWhole(t *testing.T) {
	p := grown(t, someTree())
	leaves, e := tree.Leaves(p, treeRoot)
	wantPages(t, "Leaves", leaves, e, 30, 31, 32, 33, 34, 35)
	wantAll(t, p, treeRoot, someItems()...)
	pages, e := tree.Check(p, treeRoot)
	wantPages(t, "Check", pages, e, 10, 20, 30, 31, 32, 21, 33, 34, 35)
}

// 13.1: a tree all of whose leaves are empty, and trees whose first, last or all but one are.
func TestEmptyLeaves(t *testing.T) {
	inner := innerOf(9, 1, child(3, at("")), child(4, at("c")), child(5, at("e")))
	for _, l := range [][3][]api.Item{
		{},
		{lives("a")}, {nil, lives("c")}, {nil, nil, lives("e")},
		{lives("a", "b"), nil, {ghost(at("e")), live(at("f"))}}, {nil, {ghost(at("d"))}, lives("g")}, {lives("a"), {ghost(at("c"))}, nil},
	} {
		p := grown(t, woods{}.with(inner, leafOf(3, 4, l[0]...), leafOf(4, 5, l[1]...), leafOf(5, 0, l[2]...)))
		all := slices.Concat(l[:]...)
		wantAll(t, p, 9, all...)
		wantEach(t, p, 9, all, probes(all))
		leaves, e := tree.Leaves(p, 9)
		wantPages(t, "Leaves", leaves, e, 3, 4, 5)
		pages, e := tree.Check(p, 9)
		wantPages(t, "Check", pages, e, 9, 3, 4, 5)
	}
}

// A pool with fewer frames than the tree has pages, whichever page leaves.
func TestFewFrames(t *testing.T) {
	p, _ := laid(t, someTree(), room, 4)
	for _, picks := range [][]int{nil, {3, 3, 3, 3, 3, 3, 3, 3}, {0, 1, 2, 3, -1, -2, 7, 100, 2, 2}} {
		p.Picks(picks)
		wantEach(t, p, treeRoot, someItems(), probes(someItems()))
		p.Picks(picks)
		wantAll(t, p, treeRoot, someItems()...)
		p.Picks(picks)
		leaves, e := tree.Leaves(p, treeRoot)
		wantPages(t, "Leaves", leaves, e, 30, 31, 32, 33, 34, 35)
		p.Picks(picks)
		pages, e := tree.Check(p, treeRoot)
		wantPages(t, "Check", pages, e, 10, 20, 30, 31, 32, 21, 33, 34, 35)
	}
}

// Trees are read alone: all pages stay as they are, and none gets dirty.
func TestNothingIsChanged(t *testing.T) {
	w := someTree()
	p, _ := laid(t, w, room, frames)
	if e := p.WriteAll(); e != api.OK {
		t.Fatal("WriteAll:", e)
	}
	for _, en := range probes(someItems()) {
		for _, c := range calls() {
			c.do(p, treeRoot, en)
		}
	}
	if l := p.Dirty(); len(l) != 0 {
		t.Error("Dirty:", l)
	}
	for n, x := range w {
		if y, e := p.Get(n); e != api.OK || !page.Same(x, y) || y.LSN != x.LSN {
			t.Errorf("page %d: %+v, %d", n, y, e)
		}
	}
}
