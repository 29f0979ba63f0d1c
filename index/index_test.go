package index_test

import (
	"encoding/binary"
	"maps"
	"math"
	"slices"
	"strings"
	"testing"

	"girder/api"
	"girder/disk"
	"girder/index"
	"girder/pool"
	"girder/tree"
	"girder/wal"
)

const (
	room   = 64            // pages of the disks of these tests, where nothing else is said
	frames = api.MaxFrames // of their pools
	table  = 7             // the table whose index is asked
	rows   = 40            // the page of most rows
	end    = -1            // where a slot is named: the end
)

// entry is a key and a place.
func entry(key string, n api.Page, slot int) api.Entry {
	return api.Entry{Key: key, RID: api.RID{Page: n, Slot: slot}}
}

// of is the entry of a key and a slot of the page of most rows.
func of(key string, slot int) api.Entry { return entry(key, rows, slot) }

// at is the entry of a key at the place zero.
func at(key string) api.Entry { return entry(key, 0, 0) }

func live(e api.Entry) api.Item  { return api.Item{Entry: e, Live: true} }
func ghost(e api.Entry) api.Item { return api.Item{Entry: e} }

func child(n api.Page, from api.Entry) api.Child { return api.Child{Page: n, From: from} }

// entryBytes is an entry by the words of chapter 12: Page 4, Slot 2, the key.
func entryBytes(e api.Entry) string {
	b := binary.LittleEndian.AppendUint32(nil, uint32(e.RID.Page))
	b = binary.LittleEndian.AppendUint16(b, uint16(e.RID.Slot))
	return string(append(b, e.Key...))
}

// leafOf is a leaf, its bytes laid by the words of chapter 12.
func leafOf(n, next api.Page, l ...api.Item) api.Sheet {
	x := api.Sheet{Number: n, LSN: 1, Kind: api.KindLeaf, Head: string(binary.LittleEndian.AppendUint32(nil, uint32(next)))}
	for _, y := range l {
		first := "\x00"
		if y.Live {
			first = "\x01"
		}
		x.Slots = append(x.Slots, first+entryBytes(y.Entry))
	}
	return x
}

// innerOf is an inner page, its bytes laid by the words of chapter 12.
func innerOf(n api.Page, level byte, l ...api.Child) api.Sheet {
	x := api.Sheet{Number: n, LSN: 1, Kind: api.KindInner, Head: string([]byte{level})}
	for _, y := range l {
		x.Slots = append(x.Slots, string(binary.LittleEndian.AppendUint32(nil, uint32(y.Page)))+entryBytes(y.From))
	}
	return x
}

// woods is pages by their numbers.
type woods map[api.Page]api.Sheet

// with is the same pages, but for some.
func (w woods) with(l ...api.Sheet) woods {
	w = maps.Clone(w)
	for _, x := range l {
		w[x.Number] = x
	}
	return w
}

// laid is a pool that has pages, and nothing else, and the disk below it.
func laid(t *testing.T, w woods, room, frames int) (*pool.Pool, *disk.Disk) {
	t.Helper()
	d, e := disk.New(room)
	if e != api.OK {
		t.Fatal("disk.New:", e)
	}
	l, _, e := wal.Open(d)
	if e != api.OK {
		t.Fatal("wal.Open:", e)
	}
	p, e := pool.New(d, l, frames)
	if e != api.OK {
		t.Fatal("pool.New:", e)
	}
	for _, n := range slices.Sorted(maps.Keys(w)) {
		if e := p.Put(w[n]); e != api.OK {
			t.Fatalf("page %d: %d", n, e)
		}
	}
	return p, d
}

// grown is a pool that has pages.
func grown(t *testing.T, w woods) *pool.Pool {
	t.Helper()
	p, _ := laid(t, w, room, frames)
	return p
}

// treeRoot is the root of the tree of most tests.
const treeRoot api.Page = 10

// someTree is that tree: three levels, leaves that are empty or hold ghosts alone, keys at several places, in one leaf and in two. The slots of the places count the items.
func someTree() woods {
	return woods{}.with(
		innerOf(10, 2, child(20, at("")), child(21, of("m", 6))),
		innerOf(20, 1, child(30, at("")), child(31, of("c", 3)), child(32, entry("c", 42, 0))),
		innerOf(21, 1, child(33, at("")), child(36, of("m", 8)), child(34, at("p")), child(35, at("t"))),
		leafOf(30, 31, live(of("", 0)), ghost(of("a", 1)), live(of("b", 2))),
		leafOf(31, 32, live(of("c", 3)), ghost(of("c", 4)), live(of("c", 5))),
		leafOf(32, 33),
		leafOf(33, 36, live(of("m", 6)), ghost(of("m", 7))),
		leafOf(36, 34, ghost(of("m", 8)), live(of("o", 9))),
		leafOf(34, 35, ghost(of("p", 10)), ghost(of("q", 11))),
		leafOf(35, 0, live(of("t", 12)), ghost(of("z", 13))),
	)
}

// someIndex is the index of that tree.
func someIndex(unique bool) api.Index {
	return api.Index{Name: "x", ID: 3, Root: treeRoot, Cols: []int{1, 0}, Unique: unique}
}

// nameAt is the name of the lock of a slot of the page of most rows, or of the end.
func nameAt(root api.Page, slot int) api.Name {
	if slot == end {
		return api.Name{Kind: 3, Of: int(root)}
	}
	return api.Name{Kind: 2, Of: table, RID: api.RID{Page: rows, Slot: slot}}
}

// read is needs in S, of slots.
func read(root api.Page, slots ...int) []api.Need {
	var l []api.Need
	for _, slot := range slots {
		l = append(l, api.Need{Name: nameAt(root, slot), Mode: 3})
	}
	return l
}

// atOnce is an instant need in X.
func atOnce(n api.Name) api.Need { return api.Need{Name: n, Mode: 5, Instant: true} }

// wantRange asks for what a range finds and needs.
func wantRange(t *testing.T, p *pool.Pool, ix api.Index, low, high string, found []api.Entry, needs []api.Need) {
	t.Helper()
	f, n, e := index.Range(p, table, ix, low, high)
	if e != api.OK || !slices.Equal(f, found) || !slices.Equal(n, needs) {
		t.Errorf("Range from %q to %q: %+v, %+v, %d, not %+v, %+v", low, high, f, n, e, found, needs)
	}
}

// wantPut asks for what an entry that is put in needs, and whether its key is there.
func wantPut(t *testing.T, p *pool.Pool, ix api.Index, en api.Entry, twice bool, needs ...api.Need) {
	t.Helper()
	n, is, e := index.Put(p, table, ix, en)
	if e != api.OK || is != twice || !slices.Equal(n, needs) {
		t.Errorf("Put of %+v (unique: %v): %+v, %v, %d, not %+v, %v", en, ix.Unique, n, is, e, needs, twice)
	}
}

// 15.1: the names, field by field.
func TestNames(t *testing.T) {
	for _, n := range []int{0, 1, 2, 7, api.MaxTables, -1, math.MaxInt, math.MinInt} {
		if x := index.Table(n); x != (api.Name{Kind: api.NameTable, Of: n}) {
			t.Errorf("Table(%d): %+v", n, x)
		}
		for _, r := range somePlaces() {
			if x := index.Row(n, r); x != (api.Name{Kind: api.NameRow, Of: n, RID: r}) {
				t.Errorf("Row(%d, %+v): %+v", n, r, x)
			}
		}
	}
	for _, n := range []api.Page{0, 1, 2, 7, api.MaxPages, api.MaxPages + 1, math.MaxUint32} {
		if x := index.End(n); x != (api.Name{Kind: api.NameEnd, Of: int(n)}) {
			t.Errorf("End(%d): %+v", n, x)
		}
	}
}

// somePlaces is places, wrong ones too.
func somePlaces() []api.RID {
	return []api.RID{{}, {Page: 1}, {Slot: 1}, {Page: 1, Slot: 1}, {Page: 2, Slot: 1}, {Page: 1, Slot: 2}, {Page: 7, Slot: 7}, {Page: math.MaxUint32, Slot: 65535}, {Slot: -1}, {Slot: math.MaxInt}, {Slot: math.MinInt}}
}

// 15.1: names of different things are different ones.
func TestNamesAreUnlike(t *testing.T) {
	all := map[api.Name]int{}
	n := 0
	for of := range 20 {
		for _, r := range somePlaces() {
			all[index.Row(of, r)]++
			n++
		}
		all[index.End(api.Page(of))]++
		all[index.Table(of)]++
		n += 2
	}
	if len(all) != n {
		t.Errorf("%d names of %d things", len(all), n)
	}
}

// The chapter's example.
func TestExample(t *testing.T) {
	p := grown(t, woods{}.with(leafOf(3, 0, live(of("a", 0)), live(of("c", 1)))))
	wantRange(t, p, api.Index{Root: 3}, "a", "b", []api.Entry{of("a", 0)}, read(3, 0, 1))
}

// ranges is of the tree of most tests: from where to where, and which slots are asked for and found.
func ranges() []struct {
	low, high    string
	needs, found []int
} {
	most := strings.Repeat("\xff", api.MaxKey)
	return []struct {
		low, high    string
		needs, found []int
	}{
		// Keys of items, live ones and ghosts.
		{"", "", []int{0, 1}, []int{0}},
		{"a", "a", []int{1, 2}, nil},
		{"a", "b", []int{1, 2, 3}, []int{2}},
		{"b", "b", []int{2, 3}, []int{2}},
		{"b", "c", []int{2, 3, 4, 5, 6}, []int{2, 3, 5}},
		{"c", "c", []int{3, 4, 5, 6}, []int{3, 5}},
		{"m", "m", []int{6, 7, 8, 9}, []int{6}},
		{"m", "o", []int{6, 7, 8, 9, 10}, []int{6, 9}},
		{"o", "p", []int{9, 10, 11}, []int{9}},
		{"p", "q", []int{10, 11, 12}, nil},
		{"q", "q", []int{11, 12}, nil},
		{"q", "t", []int{11, 12, 13}, []int{12}},
		{"t", "t", []int{12, 13}, []int{12}},
		{"t", "z", []int{12, 13, end}, []int{12}},
		{"z", "z", []int{13, end}, nil},
		// Between them, ahead of all and behind all.
		{"\x00", "\x01", []int{1}, nil},
		{"\x00", "a", []int{1, 2}, nil},
		{"", "\x00", []int{0, 1}, []int{0}},
		{"a", "bz", []int{1, 2, 3}, []int{2}},
		{"aa", "az", []int{2}, nil},
		{"a\x00", "b\x00", []int{2, 3}, []int{2}},
		{"c", "l", []int{3, 4, 5, 6}, []int{3, 5}},
		{"c\x00", "l", []int{6}, nil},
		{"d", "m", []int{6, 7, 8, 9}, []int{6}},
		{"n", "n", []int{9}, nil},
		{"n", "s", []int{9, 10, 11, 12}, []int{9}},
		{"oo", "s", []int{10, 11, 12}, nil},
		{"r", "s", []int{12}, nil},
		{"u", "y", []int{13}, nil},
		{"t\x00", most, []int{13, end}, nil},
		{"z\x00", "zz", []int{end}, nil},
		{most, most, []int{end}, nil},
		{most + "\xff", most + "\xff\xff", []int{end}, nil},
		{"", most, []int{0, 1, 2, 3, 4, 5, 6, 7, 8, 9, 10, 11, 12, 13, end}, []int{0, 2, 3, 5, 6, 9, 12}},
		{"", "z", []int{0, 1, 2, 3, 4, 5, 6, 7, 8, 9, 10, 11, 12, 13, end}, []int{0, 2, 3, 5, 6, 9, 12}},
		{"", "y", []int{0, 1, 2, 3, 4, 5, 6, 7, 8, 9, 10, 11, 12, 13}, []int{0, 2, 3, 5, 6, 9, 12}},
		// Low above high.
		{"a", "", []int{1}, nil},
		{"b", "a", []int{2}, nil},
		{"c", "b", []int{3}, nil},
		{"d", "c", []int{6}, nil},
		{"c\x00", "c", []int{6}, nil},
		{"z", "a", []int{13}, nil},
		{"zz", "z", []int{end}, nil},
		{most, "", []int{end}, nil},
	}
}

// 15.1: Range of a tree of three levels.
func TestRange(t *testing.T) {
	p := grown(t, someTree())
	all, _ := tree.All(p, treeRoot)
	for _, c := range ranges() {
		var found []api.Entry
		for _, slot := range c.found {
			found = append(found, all[slot].Entry)
		}
		for _, unique := range []bool{false, true} {
			wantRange(t, p, someIndex(unique), c.low, c.high, found, read(treeRoot, c.needs...))
		}
	}
}

// 15.1: Range of a root that is a leaf: with nothing, with ghosts alone, with one key at several places.
func TestRangeOfALeaf(t *testing.T) {
	ix := api.Index{Root: 3}
	p := grown(t, woods{}.with(leafOf(3, 0)))
	for _, k := range []string{"", "a", "\xff"} {
		for _, l := range []string{"", "a", "\xff"} {
			wantRange(t, p, ix, k, l, nil, read(3, end))
		}
	}
	p = grown(t, woods{}.with(leafOf(3, 0, ghost(of("b", 0)), ghost(of("d", 1)))))
	wantRange(t, p, ix, "", "a", nil, read(3, 0))
	wantRange(t, p, ix, "a", "b", nil, read(3, 0, 1))
	wantRange(t, p, ix, "c", "c", nil, read(3, 1))
	wantRange(t, p, ix, "b", "d", nil, read(3, 0, 1, end))
	wantRange(t, p, ix, "e", "", nil, read(3, end))
	// Places rise by pages, and then by slots.
	l := []api.Entry{entry("k", 0, 0), entry("k", 0, 65535), entry("k", 1, 0), entry("k", 256, 1), entry("k", math.MaxUint32, 65535)}
	var items []api.Item
	var needs []api.Need
	for _, en := range l {
		items = append(items, live(en))
		needs = append(needs, api.Need{Name: api.Name{Kind: 2, Of: table, RID: en.RID}, Mode: 3})
	}
	p = grown(t, woods{}.with(leafOf(3, 0, items...)))
	wantRange(t, p, ix, "k", "k", l, append(slices.Clone(needs), read(3, end)...))
	wantRange(t, p, ix, "", "j", nil, needs[:1])
	wantRange(t, p, ix, "k\x00", "k\x00", nil, read(3, end))
}

// 15.1: a place that stands at several keys is asked for once for each.
func TestRangeOfOnePlace(t *testing.T) {
	p := grown(t, woods{}.with(leafOf(3, 0, ghost(of("a", 5)), live(of("b", 5)), ghost(of("c", 5)))))
	wantRange(t, p, api.Index{Root: 3}, "a", "b", []api.Entry{of("b", 5)}, read(3, 5, 5, 5))
}

// 15.1: trees of two levels, whose leaves are empty: all, the first ones, the last ones, those in the middle.
func TestRangeOverEmptyLeaves(t *testing.T) {
	ix := api.Index{Root: 9}
	of4 := func(a, b, c, d []api.Item) *pool.Pool {
		return grown(t, woods{}.with(innerOf(9, 1, child(3, at("")), child(4, at("c")), child(5, at("f")), child(6, at("i"))),
			leafOf(3, 4, a...), leafOf(4, 5, b...), leafOf(5, 6, c...), leafOf(6, 0, d...)))
	}
	p := of4(nil, nil, nil, nil)
	for _, k := range []string{"", "a", "c", "d", "f", "i", "z"} {
		wantRange(t, p, ix, k, k, nil, read(9, end))
		wantRange(t, p, ix, "", k, nil, read(9, end))
	}
	p = of4(nil, nil, nil, []api.Item{live(of("i", 0))})
	wantRange(t, p, ix, "a", "b", nil, read(9, 0))
	wantRange(t, p, ix, "a", "i", []api.Entry{of("i", 0)}, read(9, 0, end))
	p = of4([]api.Item{ghost(of("a", 0)), live(of("b", 1))}, nil, nil, nil)
	wantRange(t, p, ix, "a", "b", []api.Entry{of("b", 1)}, read(9, 0, 1, end))
	wantRange(t, p, ix, "c", "g", nil, read(9, end))
	p = of4([]api.Item{live(of("b", 1))}, nil, nil, []api.Item{ghost(of("i", 2)), live(of("j", 3))})
	wantRange(t, p, ix, "b", "h", []api.Entry{of("b", 1)}, read(9, 1, 2))
	wantRange(t, p, ix, "c", "i", nil, read(9, 2, 3))
	wantRange(t, p, ix, "", "k", []api.Entry{of("b", 1), of("j", 3)}, read(9, 1, 2, 3, end))
}

// 15.1: Put of an index that is not unique: the next item alone, whatever stands at the key.
func TestPut(t *testing.T) {
	p := grown(t, someTree())
	for _, c := range []struct {
		en   api.Entry
		next int
	}{
		{entry("", 39, 9), 0}, {of("", 0), 1}, {at("\x00"), 1}, {entry("a", 39, 9), 1}, {of("a", 1), 2}, {entry("a", 41, 0), 2}, {of("b", 2), 3},
		{of("c", 2), 3}, {of("c", 3), 4}, {of("c", 4), 5},
		// Behind the last one of a leaf: in the next leaf, over one that is empty.
		{of("c", 5), 6}, {entry("c", 41, 0), 6}, {entry("c", 42, 0), 6}, {at("d"), 6}, {at("m"), 6}, {of("m", 5), 6},
		{of("m", 6), 7}, {of("m", 7), 8}, {of("m", 8), 9}, {of("m", 9), 9}, {of("o", 9), 10}, {at("p"), 10}, {of("p", 10), 11}, {of("q", 11), 12}, {at("r"), 12},
		{of("t", 12), 13}, {at("z"), 13}, {of("z", 12), 13}, {of("z", 13), end}, {of("z", 14), end}, {at("z\x00"), end}, {at(strings.Repeat("\xff", api.MaxKey)), end},
		// Places that no item has.
		{entry("", 0, -1), 0}, {entry("m", rows, math.MinInt), 6}, {entry("c", rows, math.MaxInt), 6}, {of("m", 7+65536), 9}, {entry("z", math.MaxUint32, math.MaxInt), end},
	} {
		wantPut(t, p, someIndex(false), c.en, false, atOnce(nameAt(treeRoot, c.next)))
	}
}

// 15.1: Put of a unique index: those with the key, but for its own place.
func TestPutUnique(t *testing.T) {
	p := grown(t, someTree())
	for _, c := range []struct {
		en    api.Entry
		same  []int
		twice bool
		next  int
	}{
		// The key is not there.
		{at("\x00"), nil, false, 1}, {entry("d", 99, 0), nil, false, 6}, {at("n"), nil, false, 9}, {at("r"), nil, false, 12}, {at("zz"), nil, false, end},
		{at("c\x00"), nil, false, 6}, {at("bz"), nil, false, 3},
		// Once, live, elsewhere and at its own place.
		{at("b"), []int{2}, true, 0}, {entry("b", 99, 2), []int{2}, true, 0}, {of("b", 3), []int{2}, true, 0}, {entry("b", 2, rows), []int{2}, true, 0}, {of("b", 2), nil, false, 3},
		{at(""), []int{0}, true, 0}, {of("", 0), nil, false, 1}, {entry("t", 99, 0), []int{12}, true, 0}, {of("t", 12), nil, false, 13},
		// Once, a ghost: ahead of it, there and behind it.
		{at("a"), []int{1}, false, 1}, {of("a", 1), nil, false, 2}, {entry("a", 99, 0), []int{1}, false, 2},
		{at("q"), []int{11}, false, 11}, {of("q", 11), nil, false, 12}, {of("q", 12), []int{11}, false, 12},
		{at("z"), []int{13}, false, 13}, {of("z", 13), nil, false, end}, {of("z", 14), []int{13}, false, end},
		// More often: live ones among them.
		{at("c"), []int{3, 4, 5}, true, 0}, {entry("c", 99, 0), []int{3, 4, 5}, true, 0}, {of("c", 3), []int{4, 5}, true, 0}, {of("c", 4), []int{3, 5}, true, 0}, {of("c", 5), []int{3, 4}, true, 0},
		// One alone is live, the last one stands in the next leaf.
		{at("m"), []int{6, 7, 8}, true, 0}, {of("m", 7), []int{6, 8}, true, 0}, {of("m", 8), []int{6, 7}, true, 0}, {of("m", 9), []int{6, 7, 8}, true, 0},
		{of("m", 6), []int{7, 8}, false, 7},
		// Places that no item has.
		{entry("b", rows, 2+65536), []int{2}, true, 0}, {entry("a", rows, math.MaxInt), []int{1}, false, 2}, {entry("a", 0, math.MinInt), []int{1}, false, 1},
	} {
		needs := read(treeRoot, c.same...)
		if !c.twice {
			needs = append(needs, atOnce(nameAt(treeRoot, c.next)))
		}
		wantPut(t, p, someIndex(true), c.en, c.twice, needs...)
	}
}

// 15.1: Put into trees without items: the end of that tree.
func TestPutIntoNothing(t *testing.T) {
	for root, w := range map[api.Page]woods{
		3: woods{}.with(leafOf(3, 0)),
		4: woods{}.with(innerOf(4, 1, child(3, at("")), child(5, at("c"))), leafOf(3, 5), leafOf(5, 0)),
	} {
		p := grown(t, w)
		for _, en := range []api.Entry{at(""), of("a", 1), of("c", 0), of("\xff", 9)} {
			wantPut(t, p, api.Index{Root: root}, en, false, atOnce(index.End(root)))
			wantPut(t, p, api.Index{Root: root, Unique: true}, en, false, atOnce(index.End(root)))
		}
	}
}

// 15.1: ghosts alone at a key of a unique index, in two leaves: it is free, once they are had.
func TestPutAmongGhosts(t *testing.T) {
	p := grown(t, woods{}.with(innerOf(9, 1, child(3, at("")), child(4, of("k", 2))),
		leafOf(3, 4, live(of("a", 0)), ghost(of("k", 1))), leafOf(4, 0, ghost(of("k", 2)), ghost(of("k", 3)))))
	ix := api.Index{Root: 9, Unique: true}
	wantPut(t, p, ix, at("k"), false, append(read(9, 1, 2, 3), atOnce(nameAt(9, 1)))...)
	wantPut(t, p, ix, of("k", 1), false, append(read(9, 2, 3), atOnce(nameAt(9, 2)))...)
	wantPut(t, p, ix, of("k", 2), false, append(read(9, 1, 3), atOnce(nameAt(9, 3)))...)
	wantPut(t, p, ix, of("k", 3), false, append(read(9, 1, 2), atOnce(nameAt(9, end)))...)
	wantPut(t, p, ix, of("k", 4), false, append(read(9, 1, 2, 3), atOnce(nameAt(9, end)))...)
	// The last of all is live: those ahead of it are asked for, too.
	p = grown(t, woods{}.with(leafOf(9, 0, ghost(of("k", 1)), ghost(of("k", 2)), live(of("k", 3)))))
	wantPut(t, p, ix, at("k"), true, read(9, 1, 2, 3)...)
	wantPut(t, p, ix, of("k", 3), false, append(read(9, 1, 2), atOnce(nameAt(9, end)))...)
}

// 15.1: Take: the row's place in X, to be kept.
func TestTake(t *testing.T) {
	for _, n := range []int{0, 1, 7, -1, math.MaxInt} {
		for _, r := range somePlaces() {
			for _, k := range []string{"", "a", strings.Repeat("\xff", api.MaxKey+1)} {
				l := index.Take(n, api.Entry{Key: k, RID: r})
				if want := []api.Need{{Name: api.Name{Kind: 2, Of: n, RID: r}, Mode: 5}}; !slices.Equal(l, want) {
					t.Errorf("Take(%d, %q at %+v): %+v", n, k, r, l)
				}
			}
		}
	}
}

// 15.1: rows are the table's that is named, the end is the root's; the rest of an index counts for nothing.
func TestTableAndRoot(t *testing.T) {
	p := grown(t, someTree())
	for _, n := range []int{0, 1, 7, -1, math.MaxInt, math.MinInt} {
		for _, ix := range []api.Index{{Root: treeRoot, Unique: true}, {Name: "another one", ID: -5, Root: treeRoot, Cols: []int{9, -1, 0}, Unique: true}} {
			found, needs, e := index.Range(p, n, ix, "t", "z")
			want := []api.Need{{Name: index.Row(n, api.RID{Page: rows, Slot: 12}), Mode: 3}, {Name: index.Row(n, api.RID{Page: rows, Slot: 13}), Mode: 3}, {Name: index.End(treeRoot), Mode: 3}}
			if e != api.OK || !slices.Equal(needs, want) || len(found) != 1 {
				t.Errorf("Range of the table %d: %+v, %+v, %d", n, found, needs, e)
			}
			needs, twice, e := index.Put(p, n, ix, at("q"))
			q := index.Row(n, api.RID{Page: rows, Slot: 11})
			if e != api.OK || twice || !slices.Equal(needs, []api.Need{{Name: q, Mode: 3}, atOnce(q)}) {
				t.Errorf("Put into the table %d: %+v, %v, %d", n, needs, twice, e)
			}
		}
	}
	// A part of the tree is a tree, too, whose end is another one.
	wantRange(t, p, api.Index{Root: 21}, "z", "z", nil, read(21, 13, end))
	wantPut(t, p, api.Index{Root: 35}, at("zz"), false, atOnce(nameAt(35, end)))
}
