package smo_test

import (
	"cmp"
	"fmt"
	"math/rand"
	"slices"
	"strings"
	"testing"

	"girder/api"
	"girder/smo"
	"girder/tree"
)

// before is the order of entries: by keys, then pages, then slots.
func before(a, b api.Entry) int {
	return cmp.Or(strings.Compare(a.Key, b.Key), cmp.Compare(a.RID.Page, b.RID.Page), cmp.Compare(a.RID.Slot, b.RID.Slot))
}

// items is what must be in a tree, in any order.
type items map[api.Entry]bool

// list is the items in their order.
func (x items) list() []api.Item {
	var l []api.Item
	for en, is := range x {
		l = append(l, api.Item{Entry: en, Live: is})
	}
	slices.SortFunc(l, func(a, b api.Item) int { return before(a.Entry, b.Entry) })
	return l
}

// orders is entries in some orders: rising, falling, mixed; with long keys, short ones, none, and all of one key.
func orders() map[string][]api.Entry {
	kinds := map[string]func(i int) api.Entry{
		"wide":    wide,
		"short":   func(i int) api.Entry { return entry(fmt.Sprintf("%03d", i), 1, 1) },
		"no key":  func(i int) api.Entry { return entry("", api.Page(i/7), i%7) },
		"one key": func(i int) api.Entry { return entry("the same key", api.Page(i/9), i%9) },
		"several": func(i int) api.Entry {
			return entry(fmt.Sprintf("%03d", i)+strings.Repeat("x", i*i*31%(api.MaxKey-2)), api.Page(i*i), i*777%65536)
		},
	}
	l := map[string][]api.Entry{}
	for kind, make := range kinds {
		many := 150
		if kind == "wide" || kind == "several" {
			many = 120
		}
		var rising []api.Entry
		for i := range many {
			rising = append(rising, make(i))
		}
		falling := slices.Clone(rising)
		slices.Reverse(falling)
		mixed := slices.Clone(rising)
		rand.New(rand.NewSource(5)).Shuffle(many, func(i, j int) { mixed[i], mixed[j] = mixed[j], mixed[i] })
		var inward []api.Entry
		for i := range many / 2 {
			inward = append(inward, rising[i], falling[i])
		}
		l[kind+", rising"], l[kind+", falling"], l[kind+", mixed"], l[kind+", inward"] = rising, falling, mixed, inward
	}
	return l
}

// 14.1, 14.3: entries put in in any order: behind each single step the tree is well formed, and has just what was put in.
func TestInsertOrders(t *testing.T) {
	most := 0
	for what, l := range orders() {
		s := laid(t, 200, frames, 2)
		n := s.begin(t)
		root := s.create(t, n)
		has := items{}
		for i, en := range l {
			wantErr(t, "Insert", smo.Insert(s.Manager, n, root, en, nil), api.OK)
			has[en] = true
			s.wantWhole(t, root, has.list()...)
			if t.Failed() {
				t.Fatal(what, i)
			}
		}
		if s.levels(t, root) < 2 {
			t.Error(what, "the root did not grow")
		}
		most = max(most, s.levels(t, root))
		s.commit(t, n)
	}
	if most < 4 {
		t.Error("no inner page was cut in two, and grew:", most)
	}
}

// 14.1, 14.2, 14.3: entries taken out in any order, put in again, and taken out; then the tree is cleaned: a root that is an empty leaf.
func TestDeleteOrders(t *testing.T) {
	for what, l := range orders() {
		s := laid(t, 200, frames, 2)
		n := s.begin(t)
		root := s.create(t, n)
		has := items{}
		s.insert(t, n, root, l...)
		for _, en := range l {
			has[en] = true
		}
		s.commit(t, n)
		n = s.begin(t)
		step := func(call string, e api.Errno) {
			t.Helper()
			wantErr(t, call, e, api.OK)
			s.wantWhole(t, root, has.list()...)
			if t.Failed() {
				t.Fatal(what)
			}
		}
		for i, en := range l {
			has[en] = false
			step("Delete", smo.Delete(s.Manager, n, root, en))
			if i%3 == 0 {
				has[en] = true
				step("Insert", smo.Insert(s.Manager, n, root, en, nil))
				has[en] = false
				step("Delete", smo.Delete(s.Manager, n, root, en))
			}
		}
		pages := s.wantWhole(t, root, has.list()...)
		s.wantClean(t, n, root, all, len(l), len(pages)-1)
		s.wantPage(t, leafOf(root, 0))
		s.wantTaken(t, 1, 2, 3)
		s.wantClean(t, n, root, all, 0, 0)
	}
}

// 14.1: at what sizes leaves are full: by bytes and by slots, just full and one slot ahead of that.
func TestRootGrowsWhenFull(t *testing.T) {
	// A leaf has room for 481 bytes of slots, and is full when less than 73 are left.
	for _, c := range []struct {
		keys []int // how long each key is
		full bool
	}{
		{[]int{64, 64, 64, 64, 64}, false},
		{[]int{64, 64, 64, 64, 64, 34}, false}, // 408 bytes
		{[]int{64, 64, 64, 64, 64, 35}, true},  // 409 bytes
		{[]int{64, 64, 64, 64, 64, 64}, true},
	} {
		var l []api.Entry
		for i, long := range c.keys {
			l = append(l, entry(string([]byte{byte('a' + i)})+strings.Repeat("x", long-1), 1, i))
		}
		s := planted(t, leafOf(3, 0, lives(l...)...))
		n := s.begin(t)
		more := at("m")
		s.insert(t, n, 3, more)
		pages := s.wantWhole(t, 3, lives(append(l, more)...)...)
		if (len(pages) == 3) != c.full || len(pages) != 3 && len(pages) != 1 {
			t.Errorf("%v: pages %v", c.keys, pages)
		}
	}
	// Without keys: 9 bytes a slot.
	for many, full := range map[int]bool{44: false, 45: false, 46: true, 47: true} {
		var l []api.Entry
		for i := range many {
			l = append(l, entry("", 1, i))
		}
		s := planted(t, leafOf(3, 0, lives(l...)...))
		n := s.begin(t)
		s.insert(t, n, 3, entry("", 2, 0))
		pages := s.wantWhole(t, 3, lives(append(l, entry("", 2, 0))...)...)
		if (len(pages) == 3) != full || len(pages) != 3 && len(pages) != 1 {
			t.Errorf("%d: pages %v", many, pages)
		}
	}
}

// crowd is an inner page over leaves of one entry each, the leaves, and what stands in them; its slots have so many bytes in all.
func crowd(n api.Page, long int) ([]api.Sheet, []api.Item) {
	froms := append([]api.Entry{at("")}, wides(1, 5)...)
	// Beside the first one, of 12 bytes, and four of 76: two more, one that is longest and one with what is left.
	froms = append(froms, at("5"+strings.Repeat("x", api.MaxKey-1)), at("6"+strings.Repeat("x", long-12-5*76-12-1)))
	var children []api.Child
	var sheets []api.Sheet
	var items []api.Item
	for i, from := range froms {
		leaf, next := api.Page(20+i), api.Page(21+i)
		if i == len(froms)-1 {
			next = 0
		}
		children = append(children, child(leaf, from))
		from.RID.Slot++
		sheets = append(sheets, leafOf(leaf, next, live(from)))
		items = append(items, live(from))
	}
	return append(sheets, innerOf(n, 1, children...)), items
}

// 14.1: an inner page is full when less than 76 of its 484 bytes are left: a root grows and is cut in two, another one is cut in two.
func TestInnerIsFullBySize(t *testing.T) {
	for _, c := range []struct {
		long, root, other int // bytes of the slots; how many pages more a root needs, and another page
	}{{405, 0, 0}, {408, 0, 0}, {409, 2, 1}, {420, 2, 1}} {
		for _, root := range []bool{true, false} {
			sheets, want := crowd(3, c.long)
			more := c.root
			if !root {
				sheets, want = crowd(10, c.long)
				sheets = append(sheets, innerOf(3, 2, child(10, at(""))))
				more = c.other
			}
			s := planted(t, sheets...)
			n := s.begin(t)
			s.wantWhole(t, 3, want...)
			s.insert(t, n, 3, at("zz"))
			if pages := s.wantWhole(t, 3, append(want, live(at("zz")))...); len(pages) != len(sheets)+more {
				t.Errorf("%d bytes, root %t: %d pages, were %d", c.long, root, len(pages), len(sheets))
			}
		}
	}
}

// 14.1: a leaf of a tree of two levels that is cut in two: the first, one in the midst, the last; where it is cut, and to which half the entry goes.
func TestLeafIsCut(t *testing.T) {
	k := func(i int) api.Entry { return wide(10 * i) }
	row := func(from, to int) []api.Item {
		var l []api.Item
		for i := from; i < to; i++ {
			l = append(l, live(k(i)))
		}
		return l
	}
	lay := func(t *testing.T) store {
		return planted(t,
			innerOf(3, 1, child(10, at("")), child(11, k(10)), child(12, k(20))),
			leafOf(10, 11, row(1, 7)...),
			leafOf(11, 12, row(10, 16)...),
			leafOf(12, 0, row(20, 26)...),
		)
	}
	with := func(l []api.Item, en api.Entry) []api.Item {
		l = append(slices.Clone(l), live(en))
		slices.SortFunc(l, func(a, b api.Item) int { return before(a.Entry, b.Entry) })
		return l
	}
	for _, c := range []struct {
		en   int // its number
		want []api.Sheet
	}{
		{0, []api.Sheet{
			innerOf(3, 1, child(10, at("")), child(4, k(3)), child(11, k(10)), child(12, k(20))),
			leafOf(10, 4, with(row(1, 3), wide(0))...), leafOf(4, 11, row(3, 7)...), leafOf(11, 12, row(10, 16)...), leafOf(12, 0, row(20, 26)...)}},
		{29, []api.Sheet{
			innerOf(3, 1, child(10, at("")), child(4, k(3)), child(11, k(10)), child(12, k(20))),
			leafOf(10, 4, with(row(1, 3), wide(29))...), leafOf(4, 11, row(3, 7)...)}},
		{31, []api.Sheet{
			innerOf(3, 1, child(10, at("")), child(4, k(3)), child(11, k(10)), child(12, k(20))),
			leafOf(10, 4, row(1, 3)...), leafOf(4, 11, with(row(3, 7), wide(31))...)}},
		{99, []api.Sheet{
			innerOf(3, 1, child(10, at("")), child(4, k(3)), child(11, k(10)), child(12, k(20))),
			leafOf(10, 4, row(1, 3)...), leafOf(4, 11, with(row(3, 7), wide(99))...)}},
		{111, []api.Sheet{
			innerOf(3, 1, child(10, at("")), child(11, k(10)), child(4, k(12)), child(12, k(20))),
			leafOf(10, 11, row(1, 7)...), leafOf(11, 4, with(row(10, 12), wide(111))...), leafOf(4, 12, row(12, 16)...)}},
		{155, []api.Sheet{
			innerOf(3, 1, child(10, at("")), child(11, k(10)), child(4, k(12)), child(12, k(20))),
			leafOf(11, 4, row(10, 12)...), leafOf(4, 12, with(row(12, 16), wide(155))...)}},
		{999, []api.Sheet{
			innerOf(3, 1, child(10, at("")), child(11, k(10)), child(12, k(20)), child(4, k(22))),
			leafOf(10, 11, row(1, 7)...), leafOf(11, 12, row(10, 16)...), leafOf(12, 4, row(20, 22)...), leafOf(4, 0, with(row(22, 26), wide(999))...)}},
	} {
		s := lay(t)
		n := s.begin(t)
		was, e := tree.All(s.p, 3)
		wantErr(t, "All", e, api.OK)
		s.insert(t, n, 3, wide(c.en))
		s.wantPage(t, c.want...)
		s.wantWhole(t, 3, with(was, wide(c.en))...)
		s.wantTaken(t, 1, 2, 3, 4, 10, 11, 12)
		if t.Failed() {
			t.Fatal(c.en)
		}
	}
}

// A leaf, not full, of a tree with one entry each; from is where it begins.
func small(n, next api.Page, i int) api.Sheet { return leafOf(n, next, live(wide(i))) }

// 14.1: an inner page below the root that is full is cut in two, its second half's first child begins with the zero entry then; also where the leaf has room.
func TestInnerIsCut(t *testing.T) {
	// The root, two inner pages of which the second is full (by one of 12 bytes and six of 76), leaves of one entry.
	lay := func(t *testing.T) store {
		l := []api.Sheet{
			innerOf(3, 2, child(10, at("")), child(11, wide(20))),
			innerOf(10, 1, child(20, at("")), child(21, wide(10))),
			innerOf(11, 1, child(22, at("")), child(23, wide(30)), child(24, wide(40)), child(25, wide(50)), child(26, wide(60)), child(27, wide(70)), child(28, wide(80))),
			small(20, 21, 5), small(21, 22, 15), small(22, 23, 25), small(23, 24, 35), small(24, 25, 45), small(25, 26, 55), small(26, 27, 65), small(27, 28, 75), small(28, 0, 85),
		}
		return planted(t, l...)
	}
	with := func(more int) []api.Item {
		x := items{wide(more): true}
		for i := 5; i < 90; i += 10 {
			x[wide(i)] = true
		}
		return x.list()
	}
	for _, c := range []struct {
		en   int
		leaf api.Sheet
	}{
		{22, leafOf(22, 23, live(wide(22)), live(wide(25)))},
		{46, leafOf(24, 25, live(wide(45)), live(wide(46)))},
		{51, leafOf(25, 26, live(wide(51)), live(wide(55)))},
		{90, leafOf(28, 0, live(wide(85)), live(wide(90)))},
	} {
		s := lay(t)
		n := s.begin(t)
		s.insert(t, n, 3, wide(c.en))
		// The slots of page 11 have 10 bytes and six times 74: the half is reached with the fourth.
		s.wantPage(t,
			innerOf(3, 2, child(10, at("")), child(11, wide(20)), child(4, wide(50))),
			innerOf(10, 1, child(20, at("")), child(21, wide(10))),
			innerOf(11, 1, child(22, at("")), child(23, wide(30)), child(24, wide(40))),
			innerOf(4, 1, child(25, at("")), child(26, wide(60)), child(27, wide(70)), child(28, wide(80))),
			c.leaf,
		)
		s.wantWhole(t, 3, with(c.en)...)
		if t.Failed() {
			t.Fatal(c.en)
		}
	}
	// Who goes another way leaves it as it is.
	s := lay(t)
	n := s.begin(t)
	full := s.get(t, 11)
	s.insert(t, n, 3, wide(7))
	s.wantPage(t, full, leafOf(20, 21, live(wide(5)), live(wide(7))))
}

// 14.1: a root that is an inner page grows by a level: its children go into a fresh page like it, which is cut in two.
func TestInnerRootGrows(t *testing.T) {
	s := planted(t,
		innerOf(3, 1, child(22, at("")), child(23, wide(30)), child(24, wide(40)), child(25, wide(50)), child(26, wide(60)), child(27, wide(70)), child(28, wide(80))),
		small(22, 23, 25), small(23, 24, 35), small(24, 25, 45), small(25, 26, 55), small(26, 27, 65), small(27, 28, 75), small(28, 0, 85),
	)
	n := s.begin(t)
	s.insert(t, n, 3, wide(50))
	s.wantPage(t,
		innerOf(3, 2, child(4, at("")), child(5, wide(50))),
		innerOf(4, 1, child(22, at("")), child(23, wide(30)), child(24, wide(40))),
		innerOf(5, 1, child(25, at("")), child(26, wide(60)), child(27, wide(70)), child(28, wide(80))),
		leafOf(25, 26, live(wide(50)), live(wide(55))),
	)
	s.wantTaken(t, append(upTo(5), 22, 23, 24, 25, 26, 27, 28)...)
}

// 14.1: a page on the way that is full is cut in two also for an entry whose ghost is there, and which needs no room.
func TestGhostInFullLeaf(t *testing.T) {
	l := lives(wides(0, 6)...)
	l[4].Live = false
	s := planted(t, leafOf(3, 0, l...))
	n := s.begin(t)
	s.insert(t, n, 3, wide(4))
	s.wantPage(t, innerOf(3, 1, child(4, at("")), child(5, wide(2))), leafOf(4, 5, lives(wides(0, 2)...)...), leafOf(5, 0, lives(wides(2, 6)...)...))
	s.wantTaken(t, upTo(5)...)
}

// 14.1: what is logged of an entry: its change, that is taken back by the key, in the tree of that root.
func TestLoggedByKey(t *testing.T) {
	s := planted(t, innerOf(7, 1, child(8, at("")), child(9, at("m"))), leafOf(8, 9, live(at("a"))), leafOf(9, 0, ghost(at("z"))))
	n := s.begin(t)
	m := entry("n", 5, 7)
	for _, c := range []struct {
		call func() api.Errno
		want api.Change
	}{
		{func() api.Errno { return smo.Insert(s.Manager, n, 7, m, all) },
			api.Change{Page: 9, Op: api.Op{Kind: api.OpInsert, At: 0, S: itemBytes(live(m))}, Undo: api.UndoKey, Index: 7, Entry: m, Live: true}},
		{func() api.Errno { return smo.Delete(s.Manager, n, 7, m) },
			api.Change{Page: 9, Op: api.Op{Kind: api.OpSet, At: 0, S: itemBytes(ghost(m)), Old: itemBytes(live(m))}, Undo: api.UndoKey, Index: 7, Entry: m}},
		{func() api.Errno { return smo.Insert(s.Manager, n, 7, m, nil) },
			api.Change{Page: 9, Op: api.Op{Kind: api.OpSet, At: 0, S: itemBytes(live(m)), Old: itemBytes(ghost(m))}, Undo: api.UndoKey, Index: 7, Entry: m, Live: true}},
		{func() api.Errno { return smo.Insert(s.Manager, n, 7, at("z"), none) },
			api.Change{Page: 9, Op: api.Op{Kind: api.OpSet, At: 1, S: itemBytes(live(at("z"))), Old: itemBytes(ghost(at("z")))}, Undo: api.UndoKey, Index: 7, Entry: at("z"), Live: true}},
		{func() api.Errno { return smo.Delete(s.Manager, n, 7, at("a")) },
			api.Change{Page: 8, Op: api.Op{Kind: api.OpSet, At: 0, S: itemBytes(ghost(at("a"))), Old: itemBytes(live(at("a")))}, Undo: api.UndoKey, Index: 7, Entry: at("a")}},
	} {
		from := s.l.End()
		wantErr(t, "call", c.call(), api.OK)
		l := records(t, s.l, from)
		if len(l) != 1 {
			t.Fatalf("logged: %v", l)
		}
		r := l[0].r
		if got := (api.Change{Page: r.Page, Op: r.Op, Undo: r.Undo, Index: r.Index, Entry: r.Entry, Live: r.Live}); r.Kind != api.RecUpdate || r.Tx != n || got != c.want {
			t.Errorf("logged: %v, not %v", got, c.want)
		}
	}
	s.wantWhole(t, 7, ghost(at("a")), live(m), live(at("z")))
}

// 14.1: each that is nested ends by a record of its own: the root that grows, the leaf that is cut in two; the entry comes last, and is not nested.
func TestNestedOneByOne(t *testing.T) {
	s := planted(t, leafOf(3, 0, lives(wides(0, 6)...)...))
	n := s.begin(t)
	from := s.l.End()
	s.insert(t, n, 3, wide(6))
	var ends []int
	l := records(t, s.l, from)
	for i, x := range l {
		if x.r.Kind == api.RecTop {
			ends = append(ends, i)
			if x.r.Next != 0 {
				t.Errorf("a nested top action leads to %d", x.r.Next)
			}
		}
	}
	if len(ends) != 2 || ends[1] != len(l)-2 || l[len(l)-1].r.Undo != api.UndoKey {
		t.Errorf("%d records, ends at %v", len(l), ends)
	}
}

// 14.1: of a leaf that is full those ghosts are cleaned for which free answers true, and it is cut in two if it is full still.
func TestInsertCleans(t *testing.T) {
	items := func(ghosts ...int) []api.Item {
		l := lives(wides(0, 6)...)
		for _, i := range ghosts {
			l[i].Live = false
		}
		return l
	}
	without := func(l []api.Item, gone ...int) []api.Item {
		var left []api.Item
		for i, x := range l {
			if !slices.Contains(gone, i) {
				left = append(left, x)
			}
		}
		return left
	}
	for _, c := range []struct {
		what   string
		ghosts []int
		free   func(api.RID) bool
		gone   []int
		cut    bool
	}{
		{"no free", []int{1, 3}, nil, nil, true},
		{"none is free", []int{1, 3}, none, nil, true},
		{"all are free", []int{1, 3}, all, []int{1, 3}, false},
		{"one of two", []int{1, 3}, only(3), []int{3}, false},
		{"the other one", []int{1, 3}, only(1), []int{1}, false},
		{"one that is live", []int{1, 3}, only(0, 2, 4, 5), nil, true},
		{"no ghosts", nil, all, nil, true},
		{"all ghosts", []int{0, 1, 2, 3, 4, 5}, all, []int{0, 1, 2, 3, 4, 5}, false},
		{"the first and the last", []int{0, 5}, all, []int{0, 5}, false},
		{"the first", []int{0, 2, 5}, only(0), []int{0}, false},
	} {
		for _, root := range []bool{true, false} {
			was := items(c.ghosts...)
			s := planted(t, leafOf(3, 0, was...))
			if !root {
				s = planted(t, innerOf(3, 1, child(8, at("")), child(9, wide(7))), leafOf(8, 9, was...), leafOf(9, 0, live(wide(7)), ghost(wide(8))))
			}
			n := s.begin(t)
			wantErr(t, "Insert", smo.Insert(s.Manager, n, 3, wide(6), c.free), api.OK)
			want := append(without(was, c.gone...), live(wide(6)))
			pages := 1
			if !root {
				want = append(want, live(wide(7)), ghost(wide(8)))
				pages = 3
			}
			if c.cut && root {
				pages += 2
			} else if c.cut {
				pages++
			}
			if l := s.wantWhole(t, 3, want...); len(l) != pages {
				t.Errorf("%s: pages %v", c.what, l)
			}
			if t.Failed() {
				t.Fatal(c.what, root)
			}
			// What was cleaned stays so, whatever becomes of who did it.
			s.abort(t, n)
			want[slices.Index(want, live(wide(6)))].Live = false
			s.wantWhole(t, 3, want...)
		}
	}
}

// 14.1: a ghost that is cleaned, and the leaf is full still: it is cut in two without it.
func TestInsertCleansAndCuts(t *testing.T) {
	l := append(lives(wides(0, 6)...), ghost(at("7")))
	upper := append(lives(wides(2, 6)...), live(at("8")))
	s := planted(t, leafOf(3, 0, l...))
	n := s.begin(t)
	wantErr(t, "Insert", smo.Insert(s.Manager, n, 3, at("8"), all), api.OK)
	s.wantPage(t, innerOf(3, 1, child(4, at("")), child(5, wide(2))), leafOf(4, 5, l[:2]...), leafOf(5, 0, upper...))

	s = planted(t, innerOf(3, 1, child(8, at(""))), leafOf(8, 0, l...))
	n = s.begin(t)
	wantErr(t, "Insert", smo.Insert(s.Manager, n, 3, at("8"), all), api.OK)
	s.wantPage(t, innerOf(3, 1, child(8, at("")), child(4, wide(2))), leafOf(8, 4, l[:2]...), leafOf(4, 0, upper...))
}

// 14.1: who puts an entry in whose ghost is cleaned on the way puts it in anew.
func TestInsertCleansItsOwnGhost(t *testing.T) {
	l := lives(wides(0, 6)...)
	l[2].Live, l[3].Live = false, false
	s := planted(t, leafOf(3, 0, l...))
	n := s.begin(t)
	wantErr(t, "Insert", smo.Insert(s.Manager, n, 3, wide(3), all), api.OK)
	s.wantPage(t, leafOf(3, 0, lives(wide(0), wide(1), wide(3), wide(4), wide(5))...))
}

// 14.1: a leaf that is not full keeps its ghosts, and so do leaves beside the way, and inner pages have none.
func TestInsertCleansFullLeavesOnly(t *testing.T) {
	l := ghosts(wides(0, 5)...)
	s := planted(t, leafOf(3, 0, l...))
	n := s.begin(t)
	asked := 0
	free := func(api.RID) bool { asked++; return true }
	wantErr(t, "Insert", smo.Insert(s.Manager, n, 3, at("z"), free), api.OK)
	s.wantPage(t, leafOf(3, 0, append(l, live(at("z")))...))
	full := ghosts(wides(10, 16)...)
	s = planted(t, innerOf(3, 1, child(8, at("")), child(9, wide(10))), leafOf(8, 9, l...), leafOf(9, 0, full...))
	n = s.begin(t)
	wantErr(t, "Insert", smo.Insert(s.Manager, n, 3, at(""), free), api.OK)
	s.wantPage(t, leafOf(9, 0, full...))
	if asked != 0 {
		t.Error("free was asked for", asked)
	}
}

// 14.1: ghosts are asked for and taken out from the last one on, each for good.
func TestCleanedFromTheBack(t *testing.T) {
	l := lives(wides(0, 6)...)
	l[1].Live, l[2].Live, l[5].Live = false, false, false
	s := planted(t, leafOf(3, 0, l...))
	n := s.begin(t)
	var asked []int
	from := s.l.End()
	wantErr(t, "Insert", smo.Insert(s.Manager, n, 3, wide(6), func(r api.RID) bool {
		asked = append(asked, r.Slot)
		return r.Slot != 2
	}), api.OK)
	if !slices.Equal(asked, []int{5, 2, 1}) {
		t.Error("asked for:", asked)
	}
	r := records(t, s.l, from)
	if len(r) != 3 {
		t.Fatalf("logged: %v", r)
	}
	for i, at := range []int{5, 1} {
		if x := r[i].r; x.Op != (api.Op{Kind: api.OpRemove, At: at, Old: itemBytes(l[at])}) || x.Undo != api.UndoNone || x.Page != 3 {
			t.Errorf("logged: %v", x)
		}
	}
}

// 14.1: keys as long as they may be, and one byte longer; the zero entry, and the greatest one.
func TestEntriesAtTheEdges(t *testing.T) {
	s := begun(t)
	n := s.begin(t)
	root := s.create(t, n)
	has := items{}
	for _, en := range []api.Entry{
		at(strings.Repeat("k", api.MaxKey)), at(""), entry("", 0, 1), entry("", 0, 65535), entry("", 1<<32-1, 65535), entry(strings.Repeat("\xff", api.MaxKey), 1<<32-1, 65535),
		at("\x00"), at("\xff"), entry("k", 3, 4), entry("k", 4, 3), entry("k", 3, 3),
	} {
		wantErr(t, "Insert", smo.Insert(s.Manager, n, root, en, nil), api.OK)
		has[en] = true
		s.wantWhole(t, root, has.list()...)
	}
	for _, en := range []api.Entry{at(strings.Repeat("k", api.MaxKey+1)), at(strings.Repeat("k", 70000))} {
		s.wantFails(t, "Insert", api.ErrKey, func() api.Errno { return smo.Insert(s.Manager, n, root, en, nil) })
	}
	for en := range has {
		s.wantFails(t, "Insert", api.ErrTwice, func() api.Errno { return smo.Insert(s.Manager, n, root, en, all) })
	}
	s.delete(t, n, root, at(""), entry("", 1<<32-1, 65535))
	has[at("")], has[entry("", 1<<32-1, 65535)] = false, false
	s.wantWhole(t, root, has.list()...)
}

// 14.1: the zero entry, put in ahead of all others, when leaves and inner pages were cut in two.
func TestZeroEntry(t *testing.T) {
	s := begun(t)
	n := s.begin(t)
	root := s.create(t, n)
	has := items{at(""): true}
	s.insert(t, n, root, at(""))
	for _, en := range wides(0, 60) {
		s.insert(t, n, root, en)
		has[en] = true
	}
	s.wantWhole(t, root, has.list()...)
	s.delete(t, n, root, at(""))
	s.wantFails(t, "Delete", api.ErrNone, func() api.Errno { return smo.Delete(s.Manager, n, root, at("")) })
	s.insert(t, n, root, at(""))
	s.wantWhole(t, root, has.list()...)
}

// Two trees beside one another have nothing in common but the map.
func TestTwoTrees(t *testing.T) {
	s := begun(t)
	n := s.begin(t)
	a, b := s.create(t, n), s.create(t, n)
	for i := range 40 {
		s.insert(t, n, a, wide(i))
		s.insert(t, n, b, wide(100-i))
	}
	met := map[api.Page]int{}
	for root, l := range map[api.Page][]api.Entry{a: wides(0, 40), b: wides(61, 101)} {
		for _, p := range s.wantTree(t, root, lives(l...)...) {
			met[p]++
		}
	}
	for p, times := range met {
		if times != 1 {
			t.Errorf("page %d is in both trees", p)
		}
	}
	s.delete(t, n, a, wides(0, 40)...)
	if _, _, e := smo.Clean(s.Manager, n, a, all); e != api.OK {
		t.Error("Clean:", e)
	}
	s.wantTree(t, b, lives(wides(61, 101)...)...)
	s.wantTree(t, a)
}
