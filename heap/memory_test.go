package heap_test

import (
	"slices"
	"strings"
	"testing"
	"unsafe"

	"girder/api"
	"girder/heap"
)

// R4: what is told is new memory, its spare room too.
func TestAnswersShareNothing(t *testing.T) {
	s := begun(t)
	n := s.begin(t)
	first := s.create(t, n)
	s.extend(t, n, first, 2)
	s.put(t, n, first, "1", "2", "3", "4", "5", "6", "7", "8", "9")
	pages, _ := heap.Pages(s.Manager, first)
	rows, _ := heap.Scan(s.Manager, first)
	otherPages, _ := heap.Pages(s.Manager, first)
	otherRows, _ := heap.Scan(s.Manager, first)
	wantPages, wantRows := slices.Clone(pages), slices.Clone(rows)
	for i := range pages[:cap(pages)] {
		pages[:cap(pages)][i] = 77
	}
	for i := range rows[:cap(rows)] {
		rows[:cap(rows)][i] = api.Stored{RID: api.RID{Page: 77, Slot: 77}, Row: "z"}
	}
	if !slices.Equal(otherPages, wantPages) || !slices.Equal(otherRows, wantRows) {
		t.Error("two answers share memory:", otherPages, otherRows)
	}
	s.wantPages(t, first, wantPages...)
	s.wantScan(t, first, wantRows...)
	// And what was told stays as it was told.
	wantErr(t, "Update", heap.Update(s.Manager, n, wantRows[0].RID, "other"), api.OK)
	s.extend(t, n, first, 1)
	if !slices.Equal(otherPages, wantPages) || !slices.Equal(otherRows, wantRows) {
		t.Error("an answer goes on changing:", otherPages, otherRows)
	}
}

// R4: a row that is handed in is not kept: its memory may be used for something else.
func TestRowsAreCopied(t *testing.T) {
	s := begun(t)
	n := s.begin(t)
	first := s.create(t, n)
	room := []byte("row one")
	row := unsafe.String(&room[0], len(room))
	a := api.RID{Page: first}
	b := s.put(t, n, first, "a", "b")[1]
	wantErr(t, "Delete", heap.Delete(s.Manager, n, a), api.OK)
	wantErr(t, "Put", heap.Put(s.Manager, n, a, row), api.OK)
	wantErr(t, "Update", heap.Update(s.Manager, n, b, row), api.OK)
	copy(room, "xxxxxxx")
	s.wantRow(t, a, "row one")
	s.wantRow(t, b, "row one")
}

// R4: rows that are told share no bytes with one another, nor with the next answer.
func TestRowsAreNew(t *testing.T) {
	s := begun(t)
	n := s.begin(t)
	first := s.create(t, n)
	s.put(t, n, first, "same", "same")
	var met []string
	for range 2 {
		for i := range 2 {
			row, _ := heap.Get(s.Manager, api.RID{Page: first, Slot: i})
			met = append(met, row)
		}
		l, _ := heap.Scan(s.Manager, first)
		met = append(met, l[0].Row, l[1].Row)
	}
	met = append(met, heap.Format().S, heap.Format().S)
	for i, a := range met {
		for _, b := range met[:i] {
			if unsafe.StringData(a) == unsafe.StringData(b) {
				t.Errorf("%q shares its memory with %q", a, b)
			}
		}
	}
	if got := strings.Join(met[:8], " "); got != "same same same same same same same same" {
		t.Error(got)
	}
}

// R5: two stores have nothing in common.
func TestApart(t *testing.T) {
	a, b := begun(t), begun(t)
	n, other := a.begin(t), b.begin(t)
	if first := a.create(t, n); first != 3 {
		t.Error("Create:", first)
	}
	a.put(t, n, 3, "row")
	if first := b.create(t, other); first != 3 {
		t.Error("Create:", first)
	}
	b.wantScan(t, 3)
	b.wantTaken(t, 1, 2, 3)
}
