package node_test

import (
	"math"
	"slices"
	"strings"
	"testing"

	"girder/api"
	"girder/key"
	"girder/node"
	"girder/page"
)

// wantFind asks where an entry stands, or would stand.
func wantFind(t *testing.T, l []api.Item, e api.Entry, want int, stands bool) {
	t.Helper()
	if n, ok := node.Find(l, e); n != want || ok != stands {
		t.Errorf("Find of %+v in %+v: %d, %v, not %d, %v", e, l, n, ok, want, stands)
	}
}

// 12.2: ahead of all, between, on one, behind all, in none.
func TestFind(t *testing.T) {
	wantFind(t, nil, at(""), 0, false)
	wantFind(t, nil, at("a"), 0, false)
	wantFind(t, []api.Item{}, at("a"), 0, false)
	l := []api.Item{live(at("b")), ghost(at("d")), live(at("f"))}
	for i, k := range []string{"a", "b", "c", "d", "e", "f", "g"} {
		wantFind(t, l, at(k), i/2, i%2 == 1)
	}
	wantFind(t, l, at(""), 0, false)
	wantFind(t, l, at("d\x00"), 2, false)
	wantFind(t, l[:1], at("a"), 0, false)
	wantFind(t, l[:1], at("b"), 0, true)
	wantFind(t, l[:1], at("c"), 1, false)
	wantFind(t, []api.Item{ghost(at(""))}, at(""), 0, true)
}

// 12.2: of the same key the places count, by Page and then by Slot; keys count as bytes.
func TestFindByPlaces(t *testing.T) {
	l := []api.Item{
		live(entry("a", 2, 5)), live(entry("a", 2, 7)), ghost(entry("a", 256, 0)), live(entry("a", 1<<31, 3)), live(entry("a\x00", 0, 0)), live(entry("\xff", 0, 0)),
	}
	for i, x := range l {
		wantFind(t, l, x.Entry, i, true)
	}
	wantFind(t, l, entry("a", 2, 4), 0, false)
	wantFind(t, l, entry("a", 1, 65535), 0, false)
	wantFind(t, l, entry("a", 2, 6), 1, false)
	wantFind(t, l, entry("a", 2, 8), 2, false)
	wantFind(t, l, entry("a", 255, 9), 2, false)
	wantFind(t, l, entry("a", 256, 1), 3, false)
	wantFind(t, l, entry("a", math.MaxUint32, 0), 4, false)
	wantFind(t, l, entry("b", 0, 0), 5, false)
	wantFind(t, l, entry("\xff", 0, 1), 6, false)
	wantFind(t, l, entry("a", 2, -1), 0, false)
	wantFind(t, l, entry("a", 2, math.MaxInt), 2, false)
	wantFind(t, l, entry("a", 2, 5+65536), 2, false)
}

// rising is entries that rise.
func rising() []api.Entry {
	l := edges()
	slices.SortFunc(l, key.Entries)
	return l
}

// 12.2: each second one of many, and all of them asked for.
func TestFindAmongMany(t *testing.T) {
	all := rising()
	var l []api.Item
	for i, e := range all {
		if i%2 == 1 {
			l = append(l, api.Item{Entry: e, Live: i%4 == 1})
		}
	}
	for i, e := range all {
		wantFind(t, l, e, i/2, i%2 == 1)
	}
}

// wantDown asks for the place of a child.
func wantDown(t *testing.T, l []api.Child, e api.Entry, want int) {
	t.Helper()
	if n := node.Down(l, e); n != want {
		t.Errorf("Down of %+v in %+v: %d, not %d", e, l, n, want)
	}
}

// 12.2: no child, one, several.
func TestDown(t *testing.T) {
	wantDown(t, nil, at("a"), 0)
	wantDown(t, []api.Child{}, at(""), 0)
	for _, k := range []string{"", "a", "b", "c"} {
		wantDown(t, []api.Child{child(1, at(""))}, at(k), 0)
		wantDown(t, []api.Child{child(1, at("b"))}, at(k), 0)
	}
	l := []api.Child{child(1, at("")), child(2, at("b")), child(3, at("d")), child(4, at("f"))}
	for i, k := range []string{"", "b", "d", "f"} {
		wantDown(t, l, at(k), i)
		wantDown(t, l, at(k+"\x00"), i)
		wantDown(t, l, entry(k, 0, 1), i)
	}
	for i, k := range []string{"a", "c", "e", "g"} {
		wantDown(t, l, at(k), i)
	}
	wantDown(t, l[:2], at("a"), 0)
	wantDown(t, l[:2], at("b"), 1)
	wantDown(t, l[:2], at("c"), 1)
}

// 12.2: children of one key, cut by their places.
func TestDownByPlaces(t *testing.T) {
	l := []api.Child{child(1, at("")), child(2, entry("a", 3, 7)), child(3, entry("a", 256, 2)), child(4, entry("a", 256, 9))}
	wantDown(t, l, entry("a", 3, 6), 0)
	wantDown(t, l, entry("a", 2, 65535), 0)
	wantDown(t, l, entry("a", 3, 7), 1)
	wantDown(t, l, entry("a", 255, 9), 1)
	wantDown(t, l, entry("a", 256, 1), 1)
	wantDown(t, l, entry("a", 256, 2), 2)
	wantDown(t, l, entry("a", 256, 8), 2)
	wantDown(t, l, entry("a", 256, 9), 3)
	wantDown(t, l, entry("b", 0, 0), 3)
	wantDown(t, l, entry("a", 0, math.MaxInt), 0)
	wantDown(t, l, entry("b", 0, math.MinInt), 3)
}

// 12.2: where the first child begins does not count.
func TestDownWhateverTheFirst(t *testing.T) {
	for _, first := range []api.Entry{at(""), at("b"), at("c"), at("z"), entry("\xff", math.MaxUint32, 65535)} {
		l := []api.Child{child(1, first), child(2, at("b")), child(3, at("d"))}
		for k, want := range map[string]int{"": 0, "a": 0, "b": 1, "c": 1, "d": 2, "z": 2, "\xff": 2} {
			wantDown(t, l, at(k), want)
		}
	}
}

// 12.2: the last one counts, also where children do not rise.
func TestDownOfTheLast(t *testing.T) {
	l := []api.Child{child(1, at("")), child(2, at("x")), child(3, at("b")), child(4, at("y"))}
	wantDown(t, l, at("a"), 0)
	wantDown(t, l, at("c"), 2)
	wantDown(t, l, at("x"), 2)
	wantDown(t, l, at("z"), 3)
	same := []api.Child{child(1, at("")), child(2, at("b")), child(3, at("b"))}
	wantDown(t, same, at("b"), 2)
	wantDown(t, same, at("a"), 0)
}

// 12.2: of many children each second one of the entries.
func TestDownAmongMany(t *testing.T) {
	all := rising()
	l := []api.Child{child(1, at(""))}
	for i, e := range all {
		if i%2 == 1 {
			l = append(l, child(api.Page(i), e))
		}
	}
	for i, e := range all {
		wantDown(t, l, e, (i+1)/2)
	}
}

// roomy is a page with so many slots and just so much room left.
func roomy(t *testing.T, p api.Sheet, slots, room int) api.Sheet {
	t.Helper()
	p.Slots = slices.Repeat([]string{""}, slots)
	p.Slots[0] = strings.Repeat("x", page.Room(p)-room)
	if page.Room(p) != room || len(p.Slots) != slots {
		t.Fatalf("room %d, slots %d", page.Room(p), len(p.Slots))
	}
	return p
}

func wantFull(t *testing.T, what string, p api.Sheet, want bool) {
	t.Helper()
	if node.Full(p) != want {
		t.Errorf("%s with %d slots and room for %d: Full is %v", what, len(p.Slots), page.Room(p), !want)
	}
}

// 12.3: the room that the longest slot needs, and a byte less.
func TestFullByRoom(t *testing.T) {
	for what, p := range map[string]api.Sheet{"leaf": leafOf(7), "blank": page.Blank(3), "heap": {Kind: 2, Head: "\x00\x00\x00\x00"}, "map": {Kind: 1}, "kind 5": {Kind: 5}, "kind 260": {Kind: 260, Head: "\x01"}} {
		for _, slots := range []int{1, 2, 30} {
			wantFull(t, what, roomy(t, p, slots, 2+7+64), false)
			wantFull(t, what, roomy(t, p, slots, 2+7+64-1), true)
			wantFull(t, what, roomy(t, p, slots, 2+7+64+1), false)
			wantFull(t, what, roomy(t, p, slots, 0), true)
		}
		wantFull(t, what, p, false)
	}
	for _, slots := range []int{1, 2, 30} {
		wantFull(t, "inner", roomy(t, innerOf(1), slots, 2+10+64), false)
		wantFull(t, "inner", roomy(t, innerOf(1), slots, 2+10+64-1), true)
		wantFull(t, "inner", roomy(t, innerOf(1), slots, 2+10+64+1), false)
		wantFull(t, "inner", roomy(t, innerOf(1), slots, 2+7+64), true)
		wantFull(t, "inner", roomy(t, innerOf(1), slots, 0), true)
	}
	wantFull(t, "inner", innerOf(1), false)
	wantFull(t, "beyond", with(leafOf(0), strings.Repeat("x", 1000)), true)
}

// 12.3: MaxSlots slots, and one less.
func TestFullBySlots(t *testing.T) {
	for what, p := range map[string]api.Sheet{"leaf": leafOf(7), "inner": innerOf(1), "blank": page.Blank(3), "heap": {Kind: 2}} {
		wantFull(t, what, with(p, slices.Repeat([]string{""}, api.MaxSlots-1)...), false)
		wantFull(t, what, with(p, slices.Repeat([]string{""}, api.MaxSlots)...), true)
		wantFull(t, what, with(p, slices.Repeat([]string{""}, api.MaxSlots+1)...), true)
	}
}

// 12.3: what is not full takes one more slot of the longest key.
func TestFullTakesOneMore(t *testing.T) {
	long := entry(keyOf(api.MaxKey), math.MaxUint32, 65535)
	leaf, inner := leafOf(0), innerOf(1, child(1, at("")))
	for i := 0; !node.Full(leaf); i++ {
		e := long
		e.RID.Slot = i
		op, no := node.PutItem(leaf, live(e))
		if no != api.OK {
			t.Fatal(no)
		}
		leaf = done(t, leaf, op)
	}
	for i := 0; !node.Full(inner); i++ {
		inner = done(t, inner, node.PutChild(i+1, child(9, long)))
	}
	// 512 bytes without 27 of the page itself: a head of 4, and 6 of 73 bytes; a head of 1, a child of 12, and 6 of 76.
	if len(leaf.Slots) != 6 || len(inner.Slots) != 7 {
		t.Errorf("full with %d and %d slots", len(leaf.Slots), len(inner.Slots))
	}
}

// sized is slots of so many bytes each.
func sized(sizes ...int) api.Sheet {
	p := leafOf(7)
	for _, n := range sizes {
		p.Slots = append(p.Slots, strings.Repeat("x", n))
	}
	return p
}

// 12.3: where a page is cut, by hand.
func TestHalf(t *testing.T) {
	for _, c := range []struct {
		sizes []int
		want  int
	}{
		{nil, 0},
		{[]int{0}, 0}, {[]int{7}, 0}, {[]int{400}, 0},
		{[]int{1, 1}, 1}, {[]int{9, 1}, 1}, {[]int{1, 9}, 1}, {[]int{0, 0}, 1}, {[]int{0, 5}, 1}, {[]int{5, 0}, 1},
		{[]int{1, 1, 1}, 1}, {[]int{9, 1, 1}, 1}, {[]int{1, 9, 1}, 1}, {[]int{1, 1, 9}, 2}, {[]int{0, 0, 0}, 1}, {[]int{0, 0, 1}, 2},
		{[]int{1, 1, 2}, 1}, {[]int{1, 1, 3}, 2}, {[]int{2, 2, 3}, 1},
		{[]int{1, 1, 1, 1}, 1}, {[]int{1, 1, 1, 1, 1}, 2}, {[]int{1, 1, 1, 1, 1, 1}, 2}, {[]int{3, 3, 3, 3, 3, 3, 3}, 3},
		{[]int{1, 1, 1, 3}, 2}, {[]int{1, 1, 1, 4}, 3}, {[]int{0, 0, 0, 0, 8}, 4}, {[]int{8, 0, 0, 0, 0}, 1},
	} {
		if got := node.Half(sized(c.sizes...)); got != c.want {
			t.Errorf("Half of %v: %d, not %d", c.sizes, got, c.want)
		}
	}
}

// 12.3: many short ones and a long one, at each place.
func TestHalfOfALongOne(t *testing.T) {
	for _, n := range []int{2, 3, 8, 20} {
		for i := range n {
			sizes := slices.Repeat([]int{8}, n)
			sizes[i] = 200
			want := max(i, 1)
			if got := node.Half(sized(sizes...)); got != want {
				t.Errorf("Half of %d with a long one at %d: %d, not %d", n, i, got, want)
			}
			// Less than half of all: the cut is at the long one or where the short ones reach half.
			sizes[i] = 16
			if got, want := node.Half(sized(sizes...)), halfByWords(sizes); got != want {
				t.Errorf("Half of %v: %d, not %d", sizes, got, want)
			}
		}
	}
}

// halfByWords is Half by the chapter's words, each sum made anew.
func halfByWords(sizes []int) int {
	sum := func(l []int) int {
		n := 0
		for _, x := range l {
			n += x
		}
		return n
	}
	if len(sizes) == 0 {
		return 0
	}
	place := 0
	for 2*sum(sizes[:place+1]) < sum(sizes) {
		place++
	}
	if place < 1 {
		place = 1
	}
	if place > len(sizes)-1 {
		place = len(sizes) - 1
	}
	return place
}

// 12.3: all lists of up to six short slots, on pages of all kinds: the kind and the head do not count.
func TestHalfOfAll(t *testing.T) {
	var ask func(sizes []int)
	ask = func(sizes []int) {
		want := halfByWords(sizes)
		p := sized(sizes...)
		for _, q := range []api.Sheet{p, with(innerOf(1), p.Slots...), {Slots: p.Slots}} {
			if got := node.Half(q); got != want {
				t.Errorf("Half of %v on a page of kind %d: %d, not %d", sizes, q.Kind, got, want)
			}
		}
		if len(sizes) == 6 {
			return
		}
		for n := range 4 {
			ask(append(slices.Clone(sizes), n))
		}
	}
	ask(nil)
}
