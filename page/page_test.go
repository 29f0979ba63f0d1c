package page_test

import (
	"math"
	"slices"
	"strings"
	"testing"

	"girder/api"
	"girder/page"
)

// pattern is n bytes of which neighbours differ, all 256 values among them.
func pattern(n int) string {
	b := make([]byte, n)
	for i := range n {
		b[i] = byte(i*167 + i>>8 + 1)
	}
	return string(b)
}

// many is n slots, each of them s.
func many(n int, s string) []string { return slices.Repeat([]string{s}, n) }

// equal tells whether two pages are the same in all; no slots are no slots, however they are told.
func equal(a, b api.Sheet) bool {
	return a.Number == b.Number && a.LSN == b.LSN && a.Kind == b.Kind && a.Head == b.Head && slices.Equal(a.Slots, b.Slots)
}

// zero tells whether a page is the zero value.
func zero(p api.Sheet) bool { return equal(p, api.Sheet{}) && len(p.Slots) == 0 }

// 3.1: a blank page has its number, and nothing else.
func TestBlank(t *testing.T) {
	for _, n := range []api.Page{0, 1, 3, api.MaxPages, 2 * api.MaxPages, math.MaxUint32} {
		p := page.Blank(n)
		if p.Number != n {
			t.Errorf("Blank(%d): number %d", n, p.Number)
		}
		p.Number = 0
		if !zero(p) {
			t.Errorf("Blank(%d): %+v", n, p)
		}
	}
}

// 3.1: what is left of 512 bytes when the sum, two LSNs, the number, the kind, two counts, the head and the slots are laid.
func TestRoom(t *testing.T) {
	for _, c := range []struct {
		p    api.Sheet
		room int
	}{
		{api.Sheet{}, 485},
		{page.Blank(9), 485},
		{api.Sheet{Number: math.MaxUint32, LSN: math.MaxUint64, Kind: 255}, 485},
		{api.Sheet{Slots: []string{}}, 485},
		{api.Sheet{Head: "a"}, 484},
		{api.Sheet{Head: pattern(32)}, 453},
		{api.Sheet{Slots: []string{""}}, 483},
		{api.Sheet{Slots: []string{"a"}}, 482},
		{api.Sheet{Slots: []string{"a", "", "bcd"}}, 475},
		{api.Sheet{Slots: many(64, "")}, 357},
		{api.Sheet{Slots: []string{pattern(482)}}, 1},
		{api.Sheet{Slots: []string{pattern(483)}}, 0},
		{api.Sheet{Slots: []string{pattern(484)}}, -1},
		{api.Sheet{Head: pattern(32), Slots: []string{pattern(451)}}, 0},
		{api.Sheet{Head: pattern(32), Slots: []string{pattern(452)}}, -1},
		{api.Sheet{Slots: []string{pattern(65535)}}, 483 - 65535},
		{api.Sheet{Slots: []string{pattern(65536), "a"}}, 482 - 65536 - 2},

		{api.Sheet{Head: pattern(33)}, 452},
		{api.Sheet{Head: pattern(1000)}, -515},
		{api.Sheet{Slots: many(65, "")}, 355},
		{api.Sheet{Slots: many(300, "")}, -115},
		{api.Sheet{Kind: -1}, 485},
		{api.Sheet{Kind: 256}, 485},
	} {
		if room := page.Room(c.p); room != c.room {
			t.Errorf("Room of head %d, slots %d: %d, not %d", len(c.p.Head), len(c.p.Slots), room, c.room)
		}
	}
}

// 3.4: the lowest byte of a kind, and the head.
func TestKind(t *testing.T) {
	for _, c := range []struct {
		kind    int
		head, s string
	}{
		{0, "", "\x00"},
		{2, "ab", "\x02ab"},
		{255, "", "\xff"},
		{256, "a", "\x00a"},
		{258, "a", "\x02a"},
		{-1, "\x00", "\xff\x00"},
		{-256, "", "\x00"},
		{math.MaxInt, "", "\xff"},
		{math.MinInt, "", "\x00"},
		{7, pattern(32), "\x07" + pattern(32)},
		{7, pattern(33), "\x07" + pattern(33)},
		{7, pattern(1000), "\x07" + pattern(1000)},
	} {
		if s := page.Kind(c.kind, c.head); s != c.s {
			t.Errorf("Kind(%d, %.9q): %.9q", c.kind, c.head, s)
		}
	}
}

// 3.4: the same in all but the LSN.
func TestSame(t *testing.T) {
	p := api.Sheet{Number: 3, LSN: 9, Kind: 2, Head: "h", Slots: []string{"a", "", "b"}}
	same := []api.Sheet{
		{Number: 3, LSN: 9, Kind: 2, Head: "h", Slots: []string{"a", "", "b"}},
		{Number: 3, LSN: 10, Kind: 2, Head: "h", Slots: []string{"a", "", "b"}},
		{Number: 3, LSN: 0, Kind: 2, Head: "h", Slots: []string{"a", "", "b"}},
	}
	others := []api.Sheet{
		{},
		{Number: 4, LSN: 9, Kind: 2, Head: "h", Slots: []string{"a", "", "b"}},
		{Number: 3, LSN: 9, Kind: 1, Head: "h", Slots: []string{"a", "", "b"}},
		{Number: 3, LSN: 9, Kind: 258, Head: "h", Slots: []string{"a", "", "b"}},
		{Number: 3, LSN: 9, Kind: 2, Head: "", Slots: []string{"a", "", "b"}},
		{Number: 3, LSN: 9, Kind: 2, Head: "h\x00", Slots: []string{"a", "", "b"}},
		{Number: 3, LSN: 9, Kind: 2, Head: "h", Slots: []string{"a", "b", ""}},
		{Number: 3, LSN: 9, Kind: 2, Head: "h", Slots: []string{"a", "b"}},
		{Number: 3, LSN: 9, Kind: 2, Head: "h", Slots: []string{"a", "", "b", ""}},
		{Number: 3, LSN: 9, Kind: 2, Head: "h", Slots: []string{"a", "", "c"}},
		{Number: 3, LSN: 9, Kind: 2, Head: "h"},
	}
	for _, q := range same {
		if !page.Same(p, q) || !page.Same(q, p) {
			t.Errorf("not the same: %+v", q)
		}
	}
	for _, q := range others {
		if page.Same(p, q) || page.Same(q, p) {
			t.Errorf("the same: %+v", q)
		}
	}
	if !page.Same(api.Sheet{}, api.Sheet{LSN: 1, Slots: []string{}}) || !page.Same(api.Sheet{Slots: []string{}}, api.Sheet{}) {
		t.Error("no slots are not no slots")
	}
}

// R4: what only looks changes nothing.
func TestLookingChangesNothing(t *testing.T) {
	slots := append(make([]string, 0, 8), "a", "b")
	spare := slots[:4]
	spare[2], spare[3] = "x", "y"
	p := api.Sheet{Number: 3, LSN: 9, Kind: 2, Head: "h", Slots: slots}
	page.Room(p)
	page.Encode(p)
	page.Same(p, p)
	page.Fits(p, api.Op{Kind: api.OpInsert, At: 1, S: "z"})
	page.Fits(p, api.Op{Kind: api.OpRemove, At: 0, Old: "a"})
	page.Fits(p, api.Op{Kind: api.OpSet, At: 0, S: "z", Old: "a"})
	page.Fits(p, api.Op{Kind: api.OpPut, S: "z", Old: "a"})
	if got := strings.Join(spare, " "); got != "a b x y" {
		t.Error("changed:", got)
	}
}
