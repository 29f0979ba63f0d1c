package space_test

import (
	"math"
	"slices"
	"strings"
	"testing"

	"girder/api"
	"girder/page"
	"girder/space"
)

// slotLong is how many bytes a map's slot has.
const slotLong = 256

func wantErr(t *testing.T, what string, e, want api.Errno) {
	t.Helper()
	if e != want {
		t.Errorf("%s: %d, not %d", what, e, want)
	}
}

// sheet is the page of a kind, with slots.
func sheet(kind int, slots ...string) api.Sheet {
	return api.Sheet{Number: api.MapPage, LSN: 7, Kind: kind, Slots: slots}
}

// with is the map in which just these pages are taken, its bits laid by the chapter's words.
func with(pages ...api.Page) api.Sheet {
	b := make([]byte, slotLong)
	for _, n := range pages {
		b[(n-1)/8] |= 1 << ((n - 1) % 8)
	}
	return sheet(api.KindMap, string(b))
}

// without is the map in which all pages but these are taken.
func without(pages ...api.Page) api.Sheet {
	m := with(pages...)
	b := []byte(m.Slots[0])
	for i := range b {
		b[i] = ^b[i]
	}
	return sheet(api.KindMap, string(b))
}

// upTo is the pages from 1 to last.
func upTo(last int) []api.Page {
	var l []api.Page
	for i := range last {
		l = append(l, api.Page(i+1))
	}
	return l
}

// done is a page behind changes, each of which must be OK.
func done(t *testing.T, m api.Sheet, ops ...api.Op) api.Sheet {
	t.Helper()
	for _, op := range ops {
		var e api.Errno
		if m, e = page.Apply(m, op, m.LSN+1); e != api.OK {
			t.Fatalf("%#v is not done: %d", op, e)
		}
	}
	return m
}

// fresh is the map that Fresh makes of a blank page.
func fresh(t *testing.T, taken int) api.Sheet {
	t.Helper()
	ops, e := space.Fresh(taken)
	wantErr(t, "Fresh", e, api.OK)
	return done(t, page.Blank(api.MapPage), ops...)
}

// wantTaken holds All, Count and Taken of every number against the pages that should be taken, rising.
func wantTaken(t *testing.T, m api.Sheet, want []api.Page) {
	t.Helper()
	if got := space.All(m); !slices.Equal(got, want) {
		t.Errorf("All: %d pages, not %d: %v", len(got), len(want), got)
	}
	if n := space.Count(m); n != len(want) {
		t.Errorf("Count: %d, not %d", n, len(want))
	}
	left := want
	for n := api.Page(0); n <= api.MaxPages+9; n++ {
		is := len(left) > 0 && left[0] == n
		if is {
			left = left[1:]
		}
		if space.Taken(m, n) != is {
			t.Errorf("Taken(%d): %v", n, !is)
		}
	}
}

// noMaps is pages that are no maps, by what is wrong with them.
func noMaps() map[string]api.Sheet {
	full, none := strings.Repeat("\xff", slotLong), strings.Repeat("\x00", slotLong)
	return map[string]api.Sheet{
		"zero":          {},
		"blank":         page.Blank(api.MapPage),
		"blank kind":    sheet(0, none),
		"heap":          sheet(api.KindHeap, full),
		"leaf":          sheet(api.KindLeaf, none),
		"inner":         sheet(api.KindInner, full),
		"kind 255":      sheet(255, full),
		"kind 257":      sheet(257, full),
		"kind -255":     sheet(-255, full),
		"kind below":    sheet(math.MinInt, full),
		"kind above":    sheet(math.MaxInt, none),
		"no slot":       sheet(api.KindMap),
		"slots of 0":    sheet(api.KindMap, []string{}...),
		"empty slot":    sheet(api.KindMap, ""),
		"1 byte":        sheet(api.KindMap, "\x01"),
		"255 bytes":     sheet(api.KindMap, full[:255]),
		"255 zeros":     sheet(api.KindMap, none[:255]),
		"257 bytes":     sheet(api.KindMap, full+"\x01"),
		"257 zeros":     sheet(api.KindMap, none+"\x00"),
		"two slots":     sheet(api.KindMap, full, none),
		"two equal":     sheet(api.KindMap, none, none),
		"empty behind":  sheet(api.KindMap, none, ""),
		"empty ahead":   sheet(api.KindMap, "", full),
		"two halves":    sheet(api.KindMap, full[:128], full[128:]),
		"halves, whole": sheet(api.KindMap, full[:128], full),
		"the head":      {Number: api.MapPage, Kind: api.KindMap, Head: full},
	}
}

// 7.1: two changes, and the bits of the first pages in the slot.
func TestFresh(t *testing.T) {
	for _, c := range []struct {
		taken int
		begin string
	}{
		{1, "\x01"},
		{2, "\x03"},
		{3, "\x07"},
		{7, "\x7f"},
		{8, "\xff"},
		{9, "\xff\x01"},
		{15, "\xff\x7f"},
		{16, "\xff\xff"},
		{17, "\xff\xff\x01"},
		{64, strings.Repeat("\xff", 8)},
		{api.MaxPages - 1, strings.Repeat("\xff", 255) + "\x7f"},
		{api.MaxPages, strings.Repeat("\xff", 256)},
	} {
		slot := c.begin + strings.Repeat("\x00", slotLong-len(c.begin))
		want := []api.Op{{Kind: api.OpFormat, At: api.KindMap}, {Kind: api.OpInsert, At: 0, S: slot}}
		ops, e := space.Fresh(c.taken)
		wantErr(t, "Fresh", e, api.OK)
		if !slices.Equal(ops, want) {
			t.Errorf("Fresh(%d): %#v", c.taken, ops)
		}
	}
}

// 7.1: what may not be.
func TestFreshOfWrong(t *testing.T) {
	for _, taken := range []int{0, -1, -api.MaxPages, math.MinInt, api.MaxPages + 1, 2 * api.MaxPages, 1 << 32, 1<<32 + 1, math.MaxInt} {
		ops, e := space.Fresh(taken)
		if e != api.ErrArg || len(ops) != 0 {
			t.Errorf("Fresh(%d): %d changes, %d", taken, len(ops), e)
		}
	}
}

// 7.1: each number of pages makes a map in which just these are taken, and which is a page.
func TestFreshMakesMaps(t *testing.T) {
	for taken := 1; taken <= api.MaxPages; taken++ {
		m := fresh(t, taken)
		if !space.Is(m) || m.Number != api.MapPage || m.Kind != api.KindMap || m.Head != "" {
			t.Fatalf("Fresh(%d) makes no map: %#v", taken, m)
		}
		if n := space.Count(m); n != taken {
			t.Errorf("Fresh(%d): %d are taken", taken, n)
		}
		if !space.Taken(m, api.Page(taken)) || space.Taken(m, api.Page(taken+1)) {
			t.Errorf("Fresh(%d): it does not end there", taken)
		}
	}
	for _, taken := range []int{1, 2, 7, 8, 9, 1000, api.MaxPages - 1, api.MaxPages} {
		m := fresh(t, taken)
		wantTaken(t, m, upTo(taken))
		s, e := page.Encode(m)
		wantErr(t, "Encode", e, api.OK)
		back, e := page.Decode(s)
		if e != api.OK || !page.Same(m, back) {
			t.Errorf("Fresh(%d): its bytes make %#v, %d", taken, back, e)
		}
	}
}

// 7.1: whatever the page was, the changes make it a map.
func TestFreshOverAll(t *testing.T) {
	ops, e := space.Fresh(9)
	wantErr(t, "Fresh", e, api.OK)
	for _, p := range []api.Sheet{
		page.Blank(1),
		{Number: 5, LSN: 3, Kind: api.KindHeap, Head: "\x04\x00\x00\x00", Slots: []string{"a", "b"}},
		{Number: 2, Kind: api.KindMap, Head: strings.Repeat("h", api.MaxHead)},
		without(),
		sheet(api.KindLeaf, slices.Repeat([]string{""}, api.MaxSlots)...),
	} {
		m := done(t, p, ops...)
		if m.Number != p.Number || m.Head != "" || !space.Is(m) {
			t.Errorf("of %#v: %#v", p, m)
		}
		wantTaken(t, m, upTo(9))
	}
}

// 7.1: what a map is: its kind, and one slot of 256 bytes.
func TestIs(t *testing.T) {
	for _, m := range []api.Sheet{
		with(),
		with(1),
		without(),
		sheet(api.KindMap, strings.Repeat("x", slotLong)),
		{Kind: api.KindMap, Slots: []string{strings.Repeat("\x00", slotLong)}},
		{Number: math.MaxUint32, LSN: math.MaxUint64, Kind: api.KindMap, Head: "h", Slots: []string{strings.Repeat("\xff", slotLong)}},
	} {
		if !space.Is(m) {
			t.Errorf("no map: %#v", m)
		}
	}
	for what, m := range noMaps() {
		if space.Is(m) {
			t.Errorf("%s: a map", what)
		}
	}
}

// 7.1: of what is no map nothing is taken, whatever its bytes.
func TestNothingOfNoMap(t *testing.T) {
	for what, m := range noMaps() {
		for _, n := range []api.Page{0, 1, 2, 8, 9, 2040, api.MaxPages, api.MaxPages + 1, math.MaxUint32} {
			if space.Taken(m, n) {
				t.Errorf("%s: %d is taken", what, n)
			}
		}
		if n := space.Count(m); n != 0 {
			t.Errorf("%s: %d are taken", what, n)
		}
		if l := space.All(m); len(l) != 0 {
			t.Errorf("%s: %v are taken", what, l)
		}
	}
}

// 7.1: each page has its own bit, and no number beyond them has one.
func TestTaken(t *testing.T) {
	for n := api.Page(1); n <= api.MaxPages; n++ {
		one, rest := with(n), without(n)
		if !space.Taken(one, n) || space.Taken(rest, n) {
			t.Errorf("the bit of %d stands elsewhere", n)
		}
		if space.Count(one) != 1 || space.Count(rest) != api.MaxPages-1 {
			t.Errorf("%d: %d are taken, and %d", n, space.Count(one), space.Count(rest))
		}
		if !slices.Equal(space.All(one), []api.Page{n}) {
			t.Errorf("not just %d is taken: %v", n, space.All(one))
		}
	}
	none := []api.Page{0, api.MaxPages + 1, api.MaxPages + 8, 2 * api.MaxPages, 1 << 16, 1<<16 + 1, 1 << 31, 1<<31 + 1, math.MaxUint32 - 7, math.MaxUint32}
	for _, n := range none {
		if space.Taken(without(), n) || space.Taken(with(), n) {
			t.Errorf("%d is taken", n)
		}
	}
}

// 7.1: All is rising, and has Count pages; Taken tells the same.
func TestAll(t *testing.T) {
	for _, l := range [][]api.Page{
		nil,
		{1},
		{8},
		{9},
		{api.MaxPages},
		{1, api.MaxPages},
		{1, 2, 3},
		{7, 8, 9, 16, 17},
		{2, 300, 1000, 1001, 2040, 2041, 2047},
		upTo(api.MaxPages - 1),
		upTo(api.MaxPages),
		upTo(api.MaxPages)[1:],
	} {
		wantTaken(t, with(l...), l)
	}
	wantTaken(t, without(), upTo(api.MaxPages))
	wantTaken(t, without(upTo(1024)...), upTo(api.MaxPages)[1024:])
}

// The chapter's example.
func TestExample(t *testing.T) {
	ops, e := space.Fresh(2)
	wantErr(t, "Fresh", e, api.OK)
	m := done(t, page.Blank(api.MapPage), ops...)
	if !strings.HasPrefix(m.Slots[0], "\x03\x00") {
		t.Errorf("the slot: %q", m.Slots[0])
	}
	n, op, e := space.Take(m, 64)
	if n != 3 || e != api.OK {
		t.Errorf("Take: %d, %d", n, e)
	}
	wantTaken(t, done(t, m, op), []api.Page{1, 2, 3})
}
