package key_test

import (
	"cmp"
	"math"
	"slices"
	"testing"

	"girder/api"
	"girder/key"
)

// 11.2: Compare: lists that rise, each one ahead of all behind it; the shorter one first.
func TestCompare(t *testing.T) {
	rising := [][]api.Value{
		nil,
		{none},
		{none, none},
		{none, num(5)},
		{none, text("")},
		{num(math.MinInt64)},
		{num(-1)},
		{num(0)},
		{num(0), none},
		{num(0), num(7)},
		{num(0), text("z")},
		{num(1)},
		{num(9)},
		{num(10)},
		{num(math.MaxInt64)},
		{text("")},
		{text(""), none},
		{text("\x00")},
		{text("A")},
		{text("a")},
		{text("a"), num(math.MaxInt64), text("z"), text("z"), text("z"), text("z")},
		{text("a\x00")},
		{text("aa")},
		{text("b")},
		{text("\xff")},
	}
	for i, a := range rising {
		for j, b := range rising {
			want := cmp.Compare(i, j)
			wantOrder(t, a, slices.Clone(b), want)
		}
	}
	if key.Compare(list(), nil) != 0 || key.Compare(nil, list()) != 0 {
		t.Error("lists of none")
	}
}

// 11.2: of values that may not be all three fields tell, too: Kind, then N, then S.
func TestCompareAny(t *testing.T) {
	var rising []api.Value
	for _, kind := range []int{math.MinInt, -1, 0, 1, 2, 3, 256, math.MaxInt} {
		for _, n := range []int64{math.MinInt64, -1, 0, 1, math.MaxInt64} {
			for _, s := range []string{"", "\x00", "a", long(21), "b"} {
				rising = append(rising, api.Value{Kind: kind, N: n, S: s})
			}
		}
	}
	for i, a := range rising {
		for j, b := range rising {
			want := cmp.Compare(i, j)
			if got := key.Compare(list(a), list(b)); got != want {
				t.Errorf("%+v and %+v: %d", a, b, got)
			}
			if got := key.Compare(list(none, a), list(none, b, none)); got != want && (want != 0 || got != -1) {
				t.Errorf("%+v and %+v behind others: %d", a, b, got)
			}
		}
	}
}

// 11.2: Entries: by the key's bytes, also where one is shorter, then by Page, then Slot.
func TestEntries(t *testing.T) {
	var rising []api.Entry
	for _, k := range []string{"", "\x00", "\x00\x00", "\x00\xff", "\x01", "A", "a", "a\x00", "aa", "b", "\x7f", "\x80", "\xff", "\xff" + long(100), "\xff\xff"} {
		for _, p := range []api.Page{0, 1, 2, 255, 256, 1 << 31, math.MaxUint32} {
			for _, s := range []int{math.MinInt, -1, 0, 1, 2, 255, 256, 65536, math.MaxInt} {
				rising = append(rising, api.Entry{Key: k, RID: api.RID{Page: p, Slot: s}})
			}
		}
	}
	for i, a := range rising {
		for j, b := range rising {
			want := cmp.Compare(i, j)
			if got := key.Entries(a, b); got != want {
				t.Errorf("%+v and %+v: %d", a, b, got)
			}
		}
	}
}
