package catalog_test

import (
	"fmt"
	"slices"
	"strings"
	"testing"

	"girder/api"
	"girder/catalog"
	"girder/heap"
	"girder/page"
)

// 17.2: Create: the table that it tells, its first page, which has no rows, and its row.
func TestCreate(t *testing.T) {
	s := begun(t)
	n := s.begin(t)
	var want []api.Table
	for i, name := range []string{"a", "b1", "0", "abcdefghijklmnop"} {
		x, e := catalog.Create(s.Manager, n, name, i+1)
		wantErr(t, "Create", e, api.OK)
		want = append(want, table(name, i+1, api.Page(i+3), i+1))
		wantTable(t, "Create", x, want[i])
		s.wantAll(t, want...)
		s.wantEmpty(t, want...)
		s.wantPage(t, api.Sheet{Number: x.First, Kind: api.KindHeap, Head: "\x00\x00\x00\x00"})
	}
	s.commit(t, n)
	s.wantAll(t, want...)
	s.wantTaken(t, 1, 2, 3, 4, 5, 6)
	rows := []string{
		"\x04\x02\x02ta" + "\x01\x01\x00\x00\x00\x00\x00\x00\x00" + "\x01\x03\x00\x00\x00\x00\x00\x00\x00" + "\x01\x01\x00\x00\x00\x00\x00\x00\x00",
		"\x04\x02\x03tb1" + "\x01\x02\x00\x00\x00\x00\x00\x00\x00" + "\x01\x04\x00\x00\x00\x00\x00\x00\x00" + "\x01\x02\x00\x00\x00\x00\x00\x00\x00",
		row("t0", 3, 5, 3), row("tabcdefghijklmnop", 4, 6, 4),
	}
	if l := s.rows(t); !slices.Equal(l, rows) {
		t.Errorf("rows: %q, not %q", l, rows)
	}
}

// 17.2: the page is made first, and then the row: what Create logs, of a page that has room, and of one that has none.
func TestCreateLogs(t *testing.T) {
	s := begun(t)
	n := s.begin(t)
	for i := range 9 {
		from := s.l.End()
		x := s.create(t, n, fmt.Sprint("a", i), 1)
		want := []int{api.RecUpdate, api.RecUpdate, api.RecUpdate, api.RecUpdate}
		first := api.Page(i + 3)
		if i == pageSlots {
			// A page more of the catalog, behind the table's, as a nested top action.
			want = []int{api.RecUpdate, api.RecUpdate, api.RecUpdate, api.RecUpdate, api.RecUpdate, api.RecTop, api.RecUpdate, api.RecUpdate}
		} else if i > pageSlots {
			first++
		}
		l := records(t, s.l, from)
		if !slices.Equal(kinds(l), want) || l[0].r.Page != api.MapPage || l[1].r.Page != x.First || x.First != first {
			t.Errorf("%d: %v, first page %d", i, kinds(l), x.First)
		}
	}
	if l, e := heap.Pages(s.Manager, api.RootPage); !slices.Equal(l, []api.Page{2, 11}) || e != api.OK {
		t.Error("pages:", l, e)
	}
	s.commit(t, n)
}

// 17.2: Create's errors, each of which changes nothing.
func TestCreateErrors(t *testing.T) {
	s := begun(t)
	n := s.begin(t)
	s.create(t, n, "a", 1)
	for _, name := range []string{"", "A", "a b", "-", "é", "a\x00", strings.Repeat("a", 17), strings.Repeat("a", 1<<16)} {
		s.wantFails(t, "Create", api.ErrName, s.creates(n, name, 1))
		s.wantFails(t, "Create", api.ErrName, s.creates(n, name, 0))
	}
	for _, cols := range []int{-1 << 63, -1, 0, 5, 6, 1<<63 - 1, 1<<32 | 1} {
		s.wantFails(t, "Create", api.ErrCols, s.creates(n, "b", cols))
		s.wantFails(t, "Create", api.ErrCols, s.creates(n, "a", cols))
	}
	for cols := 1; cols <= api.MaxCols; cols++ {
		s.wantFails(t, "Create", api.ErrTwice, s.creates(n, "a", cols))
		s.create(t, n, fmt.Sprint("b", cols), cols)
	}
	// Of another transaction, too, that is under way.
	s.wantFails(t, "Create", api.ErrTwice, s.creates(s.begin(t), "a", 1))
	// An index's name is none of a table.
	s.index(t, n, "a", "x", false, 0)
	s.create(t, n, "x", 1)
}

// 17.2: MaxTables tables, and one more; when one is dropped there is room for another one.
func TestMaxTables(t *testing.T) {
	s := begun(t)
	n := s.begin(t)
	for i := range api.MaxTables {
		s.create(t, n, fmt.Sprint("a", i), 1)
	}
	s.wantFails(t, "Create", api.ErrMany, s.creates(n, "b", 1))
	s.wantFails(t, "Create", api.ErrTwice, s.creates(n, "a0", 1))
	s.wantFails(t, "Create", api.ErrCols, s.creates(n, "a0", 5))
	s.wantFails(t, "Create", api.ErrName, s.creates(n, "B", 5))
	// Indexes may be.
	s.index(t, n, "a5", "x", true, 0)
	s.drop(t, n, "a3")
	if x := s.create(t, n, "b", 1); x.ID != api.MaxTables+2 {
		t.Error("Create:", x)
	}
	s.wantFails(t, "Create", api.ErrMany, s.creates(n, "a3", 1))
}

// 17.2: numbers rise over tables and indexes together, one above the greatest that is there.
func TestNumbers(t *testing.T) {
	s := begun(t)
	n := s.begin(t)
	want := func(what string, is, want int) {
		t.Helper()
		if is != want {
			t.Errorf("%s: %d, not %d", what, is, want)
		}
	}
	want("a", s.create(t, n, "a", 2).ID, 1)
	want("x", s.index(t, n, "a", "x", true, 0).ID, 2)
	want("b", s.create(t, n, "b", 2).ID, 3)
	want("y", s.index(t, n, "a", "y", false, 1).ID, 4)
	want("x of b", s.index(t, n, "b", "x", false, 1).ID, 5)
	want("c", s.create(t, n, "c", 2).ID, 6)
	// The greatest goes: its number comes again.
	s.drop(t, n, "c")
	want("d", s.create(t, n, "d", 2).ID, 6)
	// The greatest is an index's.
	s.drop(t, n, "d")
	want("e", s.create(t, n, "e", 2).ID, 6)
	// Another one than the greatest goes.
	s.drop(t, n, "b")
	want("f", s.create(t, n, "f", 2).ID, 7)
	s.drop(t, n, "a")
	s.drop(t, n, "f")
	want("z", s.index(t, n, "e", "z", false, 0, 1).ID, 7)
	s.drop(t, n, "e")
	s.wantAll(t)
	want("a", s.create(t, n, "a", 2).ID, 1)
	s.commit(t, n)
}

// 17.2: the greatest number, and none behind it, of tables and of indexes.
func TestLastNumber(t *testing.T) {
	for _, last := range []string{row("tz", 32766, 9, 1), row("iz", 32766, 1<<32|9, packed(false, 0))} {
		for _, table := range []bool{true, false} {
			s := begun(t)
			n := s.begin(t)
			s.create(t, n, "a", 2)
			s.commit(t, n)
			s.plant(t, last)
			n = s.begin(t)
			if table {
				if x := s.create(t, n, "b", 1); x.ID != 32767 {
					t.Error("Create:", x)
				}
			} else if x := s.index(t, n, "a", "y", false, 1); x.ID != 32767 {
				t.Error("CreateIndex:", x)
			}
			s.wantFails(t, "Create", api.ErrMany, s.creates(n, "c", 1))
			s.wantFails(t, "CreateIndex", api.ErrMany, s.indexes(n, "a", "c", 1))
			// What comes ahead of that.
			s.wantFails(t, "Create", api.ErrTwice, s.creates(n, "a", 1))
			s.wantFails(t, "CreateIndex", api.ErrCols, s.indexes(n, "a", "c", 2))
			wantErr(t, "Put", heap.Put(s.Manager, n, api.RID{Page: 3}, "row"), api.OK)
			s.wantFails(t, "CreateIndex", api.ErrRows, s.indexes(n, "a", "c", 1))
		}
	}
}

// 17.2: CreateIndex: the index that it tells, its root, which has no entries, and its row.
func TestCreateIndex(t *testing.T) {
	for _, c := range []struct {
		cols    []int
		unique  bool
		columns uint64
	}{
		{[]int{0}, false, 0b1_0000_0_00000001},
		{[]int{0}, true, 0b1_0000_1_00000001},
		{[]int{3}, false, 0b1_0011_0_00000001},
		{[]int{1, 0}, true, 0b10_0001_0000_1_00000010},
		{[]int{2, 2}, false, 0b10_0010_0010_0_00000010},
		{[]int{0, 3, 1}, true, 0b11_0000_0011_0001_1_00000011},
		{[]int{0, 0, 0, 0}, false, 0b100_0000_0000_0000_0000_0_00000100},
		{[]int{3, 2, 1, 0}, true, 0b100_0011_0010_0001_0000_1_00000100},
	} {
		s := begun(t)
		n := s.begin(t)
		s.create(t, n, "b", 1)
		s.create(t, n, "a", 4)
		from := s.l.End()
		x, e := catalog.CreateIndex(s.Manager, n, "a", "abcdefghijklmnop", c.cols, c.unique)
		wantErr(t, "CreateIndex", e, api.OK)
		want := index("abcdefghijklmnop", 3, 5, c.unique, c.cols...)
		wantIndex(t, "CreateIndex", x, want)
		s.wantAll(t, table("b", 1, 3, 1), table("a", 2, 4, 4, want))
		s.wantEmpty(t, table("b", 1, 3, 1), table("a", 2, 4, 4, want))
		s.wantTaken(t, 1, 2, 3, 4, 5)
		s.wantPage(t, api.Sheet{Number: 5, Kind: api.KindLeaf, Head: "\x00\x00\x00\x00"})
		rows := []string{row("tb", 1, 3, 1), row("ta", 2, 4, 4), row("iabcdefghijklmnop", 3, 2<<32|5, c.columns)}
		if l := s.rows(t); !slices.Equal(l, rows) {
			t.Errorf("rows: %q, not %q", l, rows)
		}
		if l := records(t, s.l, from); !slices.Equal(kinds(l), []int{api.RecUpdate, api.RecUpdate, api.RecUpdate, api.RecUpdate}) || l[0].r.Page != api.MapPage || l[1].r.Page != 5 {
			t.Errorf("logged: %+v", l)
		}
		s.commit(t, n)
	}
}

// 17.2: an index's row, byte by byte.
func TestIndexBytes(t *testing.T) {
	s := begun(t)
	n := s.begin(t)
	s.create(t, n, "a", 2)
	s.index(t, n, "a", "x", true, 1, 0)
	want := "\x04\x02\x02ix" + "\x01\x02\x00\x00\x00\x00\x00\x00\x00" + "\x01\x04\x00\x00\x00\x01\x00\x00\x00" + "\x01\x02\x21\x04\x00\x00\x00\x00\x00"
	if l := s.rows(t); len(l) != 2 || l[1] != want {
		t.Errorf("rows: %q, not %q", l, want)
	}
}

// 17.2: CreateIndex's errors, in their order, each of which changes nothing.
func TestCreateIndexErrors(t *testing.T) {
	s := begun(t)
	n := s.begin(t)
	s.create(t, n, "a", 2)
	s.create(t, n, "b", 4)
	s.index(t, n, "a", "x", false, 0)
	for _, name := range []string{"", "A", "a b", "-", "é", "a\x00", strings.Repeat("a", 17)} {
		s.wantFails(t, "CreateIndex", api.ErrName, s.indexes(n, "a", name, 0))
		s.wantFails(t, "CreateIndex", api.ErrName, s.indexes(n, "c", name, 7))
	}
	for _, table := range []string{"c", "", "A", "x", "aa", strings.Repeat("a", 17)} {
		s.wantFails(t, "CreateIndex", api.ErrTable, s.indexes(n, table, "y", 0))
		s.wantFails(t, "CreateIndex", api.ErrTable, s.indexes(n, table, "x"))
	}
	for _, cols := range [][]int{nil, {}, {0, 1, 0}, {0, 0, 0}, {2}, {0, 2}, {2, 0}, {-1}, {0, -1}, {1 << 32}, {16}, {1<<63 - 1}, {-1 << 63}, make([]int, 1<<16)} {
		s.wantFails(t, "CreateIndex", api.ErrCols, s.indexes(n, "a", "y", cols...))
		s.wantFails(t, "CreateIndex", api.ErrCols, s.indexes(n, "a", "x", cols...))
	}
	s.wantFails(t, "CreateIndex", api.ErrCols, s.indexes(n, "b", "y", 0, 1, 2, 3, 0))
	s.wantFails(t, "CreateIndex", api.ErrCols, s.indexes(n, "b", "y", 0, 1, 2, 4))
	s.wantFails(t, "CreateIndex", api.ErrTwice, s.indexes(n, "a", "x", 0))
	s.wantFails(t, "CreateIndex", api.ErrTwice, s.indexes(n, "a", "x", 1, 0))
	// The same name at another table, and a table's own.
	s.index(t, n, "b", "x", true, 0, 1, 2, 3)
	s.index(t, n, "a", "a", true, 0, 1)
	s.index(t, n, "a", "b", true, 0)
	s.index(t, n, "a", "z", true, 0)
	// MaxIndex of them.
	s.wantFails(t, "CreateIndex", api.ErrMany, s.indexes(n, "a", "y", 0))
	s.wantFails(t, "CreateIndex", api.ErrTwice, s.indexes(n, "a", "z", 0))
	s.wantFails(t, "CreateIndex", api.ErrCols, s.indexes(n, "a", "z", 3))
	s.index(t, n, "b", "y", true, 0)
	// Rows come behind that.
	wantErr(t, "Put", heap.Put(s.Manager, n, api.RID{Page: 3}, "row"), api.OK)
	wantErr(t, "Put", heap.Put(s.Manager, n, api.RID{Page: 4}, "row"), api.OK)
	s.wantFails(t, "CreateIndex", api.ErrMany, s.indexes(n, "a", "y", 0))
	s.wantFails(t, "CreateIndex", api.ErrRows, s.indexes(n, "b", "z", 0))
	s.wantFails(t, "CreateIndex", api.ErrTwice, s.indexes(n, "b", "y", 0))
	s.wantFails(t, "CreateIndex", api.ErrCols, s.indexes(n, "b", "y"))
}

// 17.2: a table that has rows, on any page of it, of anybody; and one that has none any more.
func TestRows(t *testing.T) {
	s := begun(t)
	n := s.begin(t)
	s.create(t, n, "a", 1)
	s.create(t, n, "b", 1)
	wantErr(t, "Extend", heap.Extend(s.Manager, n, 3), api.OK)
	s.commit(t, n)
	pages, e := heap.Pages(s.Manager, 3)
	wantErr(t, "Pages", e, api.OK)
	n, other := s.begin(t), s.begin(t)
	for _, r := range []api.RID{{Page: pages[0]}, {Page: pages[1]}, {Page: pages[1], Slot: 1}} {
		wantErr(t, "Put", heap.Put(s.Manager, other, r, ""), api.OK)
		s.wantFails(t, "CreateIndex", api.ErrRows, s.indexes(n, "a", "x", 0))
		if r.Slot == 0 {
			wantErr(t, "Delete", heap.Delete(s.Manager, other, r), api.OK)
		}
	}
	s.index(t, n, "b", "x", true, 0)
	s.abort(t, other)
	s.index(t, n, "a", "x", true, 0)
	s.commit(t, n)
}

// 17.2: a table whose rows can't be read: the error of the heap, behind the others.
func TestRowsUnread(t *testing.T) {
	s := begun(t)
	n := s.begin(t)
	s.create(t, n, "a", 1)
	s.index(t, n, "a", "x", true, 0)
	wantErr(t, "pool.Put", s.p.Put(page.Blank(3)), api.OK)
	s.wantFails(t, "CreateIndex", api.ErrHeap, s.indexes(n, "a", "y", 0))
	s.wantFails(t, "CreateIndex", api.ErrTwice, s.indexes(n, "a", "x", 0))
}

// 17.2: Drop: the table as it was, its rows of the catalog gone, its pages as they are; and of what is not there.
func TestDrop(t *testing.T) {
	s := begun(t)
	n := s.begin(t)
	a := s.create(t, n, "a", 2)
	b := s.create(t, n, "b", 3)
	b.Indexes = append(b.Indexes, s.index(t, n, "b", "x", true, 2, 0))
	a.Indexes = append(a.Indexes, s.index(t, n, "a", "x", false, 1), s.index(t, n, "a", "y", true, 0))
	c := s.create(t, n, "c", 1)
	wantErr(t, "Put", heap.Put(s.Manager, n, api.RID{Page: a.First}, "row"), api.OK)
	wantErr(t, "Put", heap.Put(s.Manager, n, api.RID{Page: b.First}, "row"), api.OK)
	s.wantAll(t, a, b, c)
	for _, name := range []string{"d", "x", "", "A", strings.Repeat("a", 17), "ta"} {
		s.wantFails(t, "Drop", api.ErrTable, s.drops(n, name))
	}
	was, from := s.look(t), s.l.End()
	wantTable(t, "Drop", s.drop(t, n, "a"), a)
	s.wantAll(t, b, c)
	s.wantNone(t, "a")
	s.wantFails(t, "Drop", api.ErrTable, s.drops(n, "a"))
	l := records(t, s.l, from)
	if !slices.Equal(kinds(l), []int{api.RecUpdate, api.RecUpdate, api.RecUpdate}) {
		t.Errorf("logged: %+v", l)
	}
	// No page but the catalog's was changed.
	for _, x := range was.pages {
		if x.Number != api.RootPage {
			s.wantPage(t, x)
		}
	}
	wantTable(t, "Drop", s.drop(t, n, "c"), c)
	s.wantAll(t, b)
	wantTable(t, "Drop", s.drop(t, n, "b"), b)
	s.wantAll(t)
	if l := s.rows(t); len(l) != 0 {
		t.Errorf("rows: %q", l)
	}
	s.wantTaken(t, 1, 2, 3, 4, 5, 6, 7, 8)
	s.commit(t, n)
	s.wantAll(t)
}

// 17.2, 17.3: what was dropped can be created anew; its rows' places are used again, so that the catalog does not grow.
func TestAgain(t *testing.T) {
	s := laid(t, api.MaxPages, frames)
	for i := range 30 {
		n := s.begin(t)
		if i > 0 {
			s.drop(t, n, "a")
		}
		x := s.create(t, n, "a", 1+i%4)
		x.Indexes = append(x.Indexes, s.index(t, n, "a", "x", i%2 == 0, 0))
		s.wantAll(t, x)
		s.commit(t, n)
		s.wantAll(t, x)
		s.wantEmpty(t, x)
	}
	if l, e := heap.Pages(s.Manager, api.RootPage); len(l) != 1 || e != api.OK {
		t.Error("pages:", l, e)
	}
}

// 17.2: a first page that had other things on it is a table's without rows.
func TestUsedPage(t *testing.T) {
	s := begun(t)
	n := s.begin(t)
	s.create(t, n, "a", 1)
	s.index(t, n, "a", "x", true, 0)
	wantErr(t, "Put", heap.Put(s.Manager, n, api.RID{Page: 3}, "row"), api.OK)
	s.drop(t, n, "a")
	for _, p := range []api.Page{3, 4} {
		wantErr(t, "Release", heap.Release(s.Manager, n, p), api.OK)
	}
	s.commit(t, n)
	n = s.begin(t)
	x := s.create(t, n, "b", 1)
	x.Indexes = append(x.Indexes, s.index(t, n, "b", "x", true, 0))
	y := s.create(t, n, "c", 1)
	if x.First != 3 || x.Indexes[0].Root != 4 || y.First != 5 {
		t.Error(x, y)
	}
	s.wantEmpty(t, x, y)
}
