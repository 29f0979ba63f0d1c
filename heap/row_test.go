package heap_test

import (
	"strings"
	"testing"

	"girder/api"
	"girder/heap"
	"girder/page"
)

// long is a row of so many bytes, none of which is 0.
func long(n int) string {
	b := make([]byte, n)
	for i := range b {
		b[i] = byte(1 + i*7%255)
	}
	return string(b)
}

// 10.3: a row that is put stands in its slot, with zeros behind it, and is told by Get: of no bytes, and of as many as there may be.
func TestPutLengths(t *testing.T) {
	s := begun(t)
	n := s.begin(t)
	first := s.create(t, n)
	want := []string{"", "x", "\x00", "\xff\x00\xff", long(59), long(60), strings.Repeat("\x00", 60)}
	slots := []string{}
	for i, row := range want {
		r := api.RID{Page: first, Slot: i}
		from := s.l.End()
		wantErr(t, "Put", heap.Put(s.Manager, n, r, row), api.OK)
		s.wantLogged(t, from, n, lays(r), sets(r, slot(0, ""), slot(1, row)))
		slots = append(slots, slot(1, row))
		s.wantPage(t, heapSheet(first, 0, slots...))
	}
	var all []api.Stored
	for i, row := range want {
		r := api.RID{Page: first, Slot: i}
		s.wantRow(t, r, row)
		all = append(all, api.Stored{RID: r, Row: row})
	}
	s.wantScan(t, first, all...)
}

// 10.3: which slots Put takes: one that is there and not live, or the next one, up to the seventh.
func TestPutSlots(t *testing.T) {
	s := begun(t)
	n := s.begin(t)
	first := s.create(t, n)
	put := func(at int) func() api.Errno {
		return func() api.Errno { return heap.Put(s.Manager, n, api.RID{Page: first, Slot: at}, "row") }
	}
	far := []int{-1 << 63, -2, -1, pageSlots, pageSlots + 1, api.MaxSlots, 1 << 16, 1 << 32, 1<<63 - 1}
	for i := range pageSlots {
		for at := range i {
			s.wantFails(t, "Put where a row is", api.ErrLive, put(at))
		}
		for at := i + 1; at < pageSlots; at++ {
			s.wantFails(t, "Put behind the next one", api.ErrNone, put(at))
		}
		for _, at := range far {
			s.wantFails(t, "Put at no slot", api.ErrNone, put(at))
		}
		wantErr(t, "Put", put(i)(), api.OK)
	}
	for at := range pageSlots {
		s.wantFails(t, "Put where a row is", api.ErrLive, put(at))
	}
	for _, at := range far {
		s.wantFails(t, "Put in a page without room", api.ErrNone, put(at))
	}
}

// 10.3: a place that is there is used again: the slot alone is set, and nothing is left of the row that was there.
func TestPutAgain(t *testing.T) {
	s := begun(t)
	n := s.begin(t)
	first := s.create(t, n)
	l := s.put(t, n, first, "a", long(60), "c")
	r := l[1]
	wantErr(t, "Delete", heap.Delete(s.Manager, n, r), api.OK)
	from := s.l.End()
	wantErr(t, "Put", heap.Put(s.Manager, n, r, "bb"), api.OK)
	s.wantLogged(t, from, n, sets(r, slot(0, long(60)), slot(1, "bb")))
	s.wantPage(t, heapSheet(first, 0, slot(1, "a"), slot(1, "bb"), slot(1, "c")))
	s.wantFails(t, "Put where a row is", api.ErrLive, func() api.Errno { return heap.Put(s.Manager, n, r, "bb") })
}

// 10.3: Delete leaves the row's bytes, and nothing else.
func TestDelete(t *testing.T) {
	s := begun(t)
	n := s.begin(t)
	first := s.create(t, n)
	for i, row := range []string{"", "row", long(60)} {
		r := s.put(t, n, first, row)[0]
		if r.Slot != 0 {
			t.Fatal("Place:", r)
		}
		from := s.l.End()
		wantErr(t, "Delete", heap.Delete(s.Manager, n, r), api.OK)
		s.wantLogged(t, from, n, sets(r, slot(1, row), slot(0, row)))
		s.wantPage(t, heapSheet(first, 0, slot(0, row)))
		s.wantNoRow(t, r, api.ErrNone)
		s.wantScan(t, first)
		s.wantFails(t, "Delete again", api.ErrNone, func() api.Errno { return heap.Delete(s.Manager, n, r) })
		s.wantFails(t, "Update of what went", api.ErrNone, func() api.Errno { return heap.Update(s.Manager, n, r, "x") })
		if t.Failed() {
			t.Fatal(i)
		}
	}
}

// 10.3: Update lays the other row in the same place, longer or shorter or the same.
func TestUpdate(t *testing.T) {
	s := begun(t)
	n := s.begin(t)
	first := s.create(t, n)
	r := s.put(t, n, first, "a", "b", "c")[1]
	old := "b"
	for _, row := range []string{"longer", "", long(60), "sh", "sh", long(59), strings.Repeat("\x00", 3)} {
		from := s.l.End()
		wantErr(t, "Update", heap.Update(s.Manager, n, r, row), api.OK)
		s.wantLogged(t, from, n, sets(r, slot(1, old), slot(1, row)))
		s.wantPage(t, heapSheet(first, 0, slot(1, "a"), slot(1, row), slot(1, "c")))
		s.wantRow(t, r, row)
		old = row
	}
}

// 10.3: Get, Delete and Update of places where there is no live row.
func TestNoLiveRow(t *testing.T) {
	s := begun(t)
	n := s.begin(t)
	first := s.create(t, n)
	for _, at := range []int{-1 << 63, -1, 0, 1, 6, 7, 1 << 32, 1<<63 - 1} {
		s.wantNone(t, n, api.RID{Page: first, Slot: at})
	}
	s.put(t, n, first, "a", "b", "c")
	wantErr(t, "Delete", heap.Delete(s.Manager, n, api.RID{Page: first, Slot: 1}), api.OK)
	for _, at := range []int{-1, 1, 3, 4, 6, 7, 8} {
		s.wantNone(t, n, api.RID{Page: first, Slot: at})
	}
	s.put(t, n, first, "b", "d", "e", "f", "g")
	for _, at := range []int{-1, 7, 8} {
		s.wantNone(t, n, api.RID{Page: first, Slot: at})
	}
	// A slot that was laid, and taken back.
	s.extend(t, n, first, 1)
	to := s.save(t, n)
	r := s.put(t, n, first, "gone")[0]
	wantErr(t, "Rollback", s.Rollback(n, to, s.undo), api.OK)
	s.wantPage(t, heapSheet(r.Page, 0, slot(0, "")))
	s.wantNone(t, n, r)
}

// wantNone asks that there is no live row at a place.
func (s store) wantNone(t *testing.T, n int, r api.RID) {
	t.Helper()
	s.wantNoRow(t, r, api.ErrNone)
	s.wantFails(t, "Delete", api.ErrNone, func() api.Errno { return heap.Delete(s.Manager, n, r) })
	s.wantFails(t, "Update", api.ErrNone, func() api.Errno { return heap.Update(s.Manager, n, r, "x") })
}

// 10.3: a row of 60 bytes and one of 61, and that this is told ahead of all else.
func TestRowTooLong(t *testing.T) {
	s := begun(t)
	n := s.begin(t)
	first := s.create(t, n)
	r := s.put(t, n, first, long(60))[0]
	next := api.RID{Page: first, Slot: 1}
	for _, row := range []string{long(61), long(62), long(255), long(256), long(1000)} {
		put := func(n int, r api.RID) func() api.Errno {
			return func() api.Errno { return heap.Put(s.Manager, n, r, row) }
		}
		update := func(n int, r api.RID) func() api.Errno {
			return func() api.Errno { return heap.Update(s.Manager, n, r, row) }
		}
		for what, call := range map[string]func() api.Errno{
			"Put":                     put(n, next),
			"Put where a row is":      put(n, r),
			"Put at no slot":          put(n, api.RID{Page: first, Slot: 9}),
			"Put at no page of rows":  put(n, api.RID{Page: 9}),
			"Put of no transaction":   put(99, next),
			"Update":                  update(n, r),
			"Update of no row":        update(n, next),
			"Update at no such page":  update(n, api.RID{Page: 9}),
			"Update of nobody":        update(99, r),
			"Update at no page there": update(n, api.RID{Page: api.MaxPages + 1}),
		} {
			s.wantFails(t, what, api.ErrRow, call)
		}
	}
	wantErr(t, "Put", heap.Put(s.Manager, n, next, long(60)), api.OK)
	wantErr(t, "Update", heap.Update(s.Manager, n, r, long(60)), api.OK)
}

// 10.3: which error comes first, when several apply.
func TestRowErrorsInOrder(t *testing.T) {
	s := begun(t)
	n := s.begin(t)
	first := s.create(t, n)
	live, none := s.put(t, n, first, "row")[0], api.RID{Page: first, Slot: 5}
	blank := api.RID{Page: 9, Slot: 99}
	const nobody = 99
	for _, c := range []struct {
		what string
		want api.Errno
		call func() api.Errno
	}{
		{"Put: no page of rows, no slot", api.ErrHeap, func() api.Errno { return heap.Put(s.Manager, nobody, blank, "x") }},
		{"Put: no slot, nobody", api.ErrNone, func() api.Errno { return heap.Put(s.Manager, nobody, none, "x") }},
		{"Put: live, nobody", api.ErrLive, func() api.Errno { return heap.Put(s.Manager, nobody, live, "x") }},
		{"Delete: no page of rows, no slot", api.ErrHeap, func() api.Errno { return heap.Delete(s.Manager, nobody, blank) }},
		{"Delete: no row, nobody", api.ErrNone, func() api.Errno { return heap.Delete(s.Manager, nobody, none) }},
		{"Update: no page of rows, no slot", api.ErrHeap, func() api.Errno { return heap.Update(s.Manager, nobody, blank, "x") }},
		{"Update: no row, nobody", api.ErrNone, func() api.Errno { return heap.Update(s.Manager, nobody, none, "x") }},
	} {
		s.wantFails(t, c.what, c.want, c.call)
	}
}

// 10.4: a place is its row's as long as it is live, whatever is done to others, over some pages.
func TestPlacesStay(t *testing.T) {
	s := laid(t, room, 4, 2)
	n := s.begin(t)
	first := s.create(t, n)
	s.extend(t, n, first, 2)
	var rows []string
	for i := range 3 * pageSlots {
		rows = append(rows, long(i))
	}
	l := s.put(t, n, first, rows...)
	for i := 0; i < len(l); i += 2 {
		wantErr(t, "Delete", heap.Delete(s.Manager, n, l[i]), api.OK)
	}
	for i := 1; i < len(l); i += 4 {
		rows[i] = "other" + rows[i]
		wantErr(t, "Update", heap.Update(s.Manager, n, l[i], rows[i]), api.OK)
	}
	s.extend(t, n, first, 1)
	for i := 0; i < len(l); i += 6 {
		rows[i] = "again"
		wantErr(t, "Put", heap.Put(s.Manager, n, l[i], rows[i]), api.OK)
	}
	s.commit(t, n)
	var all []api.Stored
	for i, r := range l {
		if i%2 == 0 && i%6 != 0 {
			s.wantNoRow(t, r, api.ErrNone)
			continue
		}
		s.wantRow(t, r, rows[i])
		all = append(all, api.Stored{RID: r, Row: rows[i]})
	}
	s.wantScan(t, first, all...)
	s.wantPage(t, page.Blank(7))
}
