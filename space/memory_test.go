package space_test

import (
	"slices"
	"strings"
	"testing"
	"unsafe"

	"girder/api"
	"girder/space"
)

// R4: the page that is handed in is not changed, the spare room behind its slots neither.
func TestLookingChangesNothing(t *testing.T) {
	slots := append(make([]string, 0, 4), with(1, 2).Slots[0])
	spare := slots[:3]
	spare[1], spare[2] = "x", "y"
	was := slices.Clone(spare)
	m := api.Sheet{Number: 1, LSN: 9, Kind: api.KindMap, Head: "h", Slots: slots}
	space.Is(m)
	space.Taken(m, 1)
	space.Count(m)
	space.All(m)
	space.Take(m, 64)
	space.Give(m, 2)
	space.Claim(m, 3)
	if !slices.Equal(spare, was) {
		t.Errorf("changed: %q", spare)
	}
}

// R4: what was told stays as it was when the memory of what was handed in is used for something else.
func TestNothingOfWhatIsHandedIn(t *testing.T) {
	room := []byte(with(1, 2, 9).Slots[0])
	m := sheet(api.KindMap, unsafe.String(&room[0], len(room)))
	all := space.All(m)
	_, take, _ := space.Take(m, 64)
	give, _ := space.Give(m, 9)
	claim, _ := space.Claim(m, 16)
	for i := range room {
		room[i] = 0xaa
	}
	m.Slots[0] = ""
	if !slices.Equal(all, []api.Page{1, 2, 9}) {
		t.Errorf("All: %v", all)
	}
	for _, c := range []struct{ op, want api.Op }{
		{take, api.Op{Kind: api.OpPut, At: 0, S: "\x07", Old: "\x03"}},
		{give, api.Op{Kind: api.OpPut, At: 1, S: "\x00", Old: "\x01"}},
		{claim, api.Op{Kind: api.OpPut, At: 1, S: "\x81", Old: "\x01"}},
	} {
		if c.op != c.want {
			t.Errorf("%#v, not %#v", c.op, c.want)
		}
	}
}

// R4, R5: the same again is the same answer, whatever was done to the lists of the first one, spare room too.
func TestAnswersShareNothing(t *testing.T) {
	m := with(3, 8, 9)
	pages := space.All(m)
	for i := range pages[:cap(pages)] {
		pages[:cap(pages)][i] = 77
	}
	wantTaken(t, m, []api.Page{3, 8, 9})

	first, _ := space.Fresh(9)
	slot := first[1].S
	for i := range first[:cap(first)] {
		first[:cap(first)][i] = api.Op{Kind: 99, S: "z"}
	}
	second, e := space.Fresh(9)
	if e != api.OK || len(second) != 2 || second[0] != (api.Op{Kind: api.OpFormat, At: api.KindMap}) || second[1] != (api.Op{Kind: api.OpInsert, S: slot}) {
		t.Errorf("Fresh again: %#v, %d", second, e)
	}
	if unsafe.StringData(slot) == unsafe.StringData(second[1].S) {
		t.Error("two slots share their memory")
	}
	if !strings.HasPrefix(slot, "\xff\x01\x00") {
		t.Errorf("the slot: %q", slot)
	}
}

// R5: what was asked ahead, of whatever map, changes no answer.
func TestNothingIsKept(t *testing.T) {
	a, b := with(1, 2), without(2000)
	for range 3 {
		wantTake(t, a, 64, 3)
		wantTake(t, b, api.MaxPages, 2000)
		wantNoTake(t, b, 64, api.ErrSpace)
		wantTaken(t, a, []api.Page{1, 2})
	}
}
