package catalog_test

import (
	"fmt"
	"slices"
	"strings"
	"testing"

	"girder/api"
	"girder/catalog"
	"girder/heap"
	"girder/page"
	"girder/space"
)

// tables is all tables.
func (s store) tables(t *testing.T) []api.Table {
	t.Helper()
	l, e := catalog.All(s.Manager)
	wantErr(t, "All", e, api.OK)
	return l
}

// wantSameRows asks that what stands in the pages has not changed, but for places of the catalog in which no row stood: these stay.
func (s store) wantSameRows(t *testing.T, what string, was seen) {
	t.Helper()
	for _, x := range was.pages {
		y := s.get(t, x.Number)
		x.Slots, y.Slots = used(x.Slots), used(y.Slots)
		if !page.Same(x, y) {
			t.Errorf("%s: page %d: %#v was %#v", what, x.Number, y, x)
		}
	}
}

// used is slots without those at the end that are all zeros.
func used(l []string) []string {
	for len(l) > 0 && strings.Trim(l[len(l)-1], "\x00") == "" {
		l = l[:len(l)-1]
	}
	return l
}

// 17.3, T7: each place of a transaction that created and dropped: going back to it, all is as it was then; and wholly.
func TestBack(t *testing.T) {
	do := func(t *testing.T) (store, int, []api.LSN, []seen) {
		s, _ := stocked(t)
		n := s.begin(t)
		var saves []api.LSN
		var was []seen
		for i, step := range []func(){
			func() { s.create(t, n, "a", 1) },
			func() { s.index(t, n, "a", "x", true, 0) },
			func() { s.drop(t, n, "aaaa") },
			func() { s.create(t, n, "aaaa", 4) },
			func() { s.index(t, n, "aaaa", "xxxx", false, 3, 0) },
			func() { s.drop(t, n, "a") },
			func() { s.index(t, n, "bbbb", "z", false, 2) },
			func() { s.drop(t, n, "bbbb") },
			func() { s.create(t, n, "a", 2) },
			func() { s.drop(t, n, "a") },
		} {
			saves = append(saves, s.save(t, n))
			was = append(was, s.look(t))
			step()
			// An error in the midst changes nothing of that.
			if i%2 == 0 {
				s.wantFails(t, "Create", api.ErrName, s.creates(n, "-", 1))
			}
		}
		return s, n, saves, was
	}
	_, _, saves, _ := do(t)
	for i := range saves {
		s, n, saves, was := do(t)
		s.to(t, n, saves[i])
		s.wantSameRows(t, fmt.Sprint("step ", i), was[i])
		s.abort(t, n)
		s.wantSameRows(t, "all of it", was[0])
		s.wantStocked(t)
		s.wantTaken(t, 1, 2, 3, 4, 5, 6, 7)
		if s.l.Kept() != 0 || len(s.All()) != 0 {
			t.Errorf("kept: %d, under way: %v", s.l.Kept(), s.All())
		}
		if t.Failed() {
			t.Fatal("step", i)
		}
	}
}

// 17.3, T7: a catalog that was extended stays so, but for that all goes back, and what it has is found on both pages.
func TestBackBehindExtend(t *testing.T) {
	s := begun(t)
	n := s.begin(t)
	var want []api.Table
	for i := range pageSlots {
		want = append(want, s.create(t, n, fmt.Sprint("a", i), 1))
	}
	s.commit(t, n)
	n = s.begin(t)
	to := s.save(t, n)
	x := s.create(t, n, "b", 1)
	s.create(t, n, "c", 1)
	s.index(t, n, "b", "x", true, 0)
	s.drop(t, n, "a3")
	s.to(t, n, to)
	s.wantAll(t, want...)
	s.wantTaken(t, 1, 2, 3, 4, 5, 6, 7, 8, 9, 11)
	if l, e := heap.Pages(s.Manager, api.RootPage); !slices.Equal(l, []api.Page{2, 11}) || e != api.OK {
		t.Error("pages:", l, e)
	}
	s.wantPage(t, page.Blank(x.First))
	y := s.create(t, n, "b", 2)
	s.commit(t, n)
	s.wantAll(t, append(want, y)...)
	s.wantEmpty(t, append(want, y)...)
	if y.ID != 8 || y.First != 10 {
		t.Error("Create:", y)
	}
}

// 17.3: what others committed beside that stays, when one goes back.
func TestBackBeside(t *testing.T) {
	s := begun(t)
	a, b := s.begin(t), s.begin(t)
	s.create(t, a, "a", 1)
	x := s.create(t, b, "b", 1)
	s.index(t, a, "a", "x", true, 0)
	x.Indexes = append(x.Indexes, s.index(t, b, "b", "x", true, 0))
	s.commit(t, b)
	s.abort(t, a)
	s.wantAll(t, x)
	s.wantEmpty(t, x)
	s.wantTaken(t, 1, 2, x.First, x.Indexes[0].Root)
}

// 17.2, R2: a full disk in the midst of each: it says so, and nothing has changed.
func TestDiskFull(t *testing.T) {
	for rows := range 2*pageSlots + 1 {
		for left := range 3 {
			s := begun(t)
			n := s.begin(t)
			s.create(t, n, "a", 1)
			for i := 1; i < rows; i++ {
				if i < 8 {
					s.create(t, n, fmt.Sprint("b", i), 1)
				} else {
					s.index(t, n, fmt.Sprint("b", i-7), "x", true, 0)
				}
			}
			s.commit(t, n)
			s.claimAll(t, left)
			had := max(rows, 1)
			need := 1
			if had%pageSlots == 0 {
				need = 2
			}
			for what, call := range map[string]func(store, int) func() api.Errno{
				"Create":      func(s store, n int) func() api.Errno { return s.creates(n, "c", 1) },
				"CreateIndex": func(s store, n int) func() api.Errno { return s.indexes(n, "a", "x", 0) },
			} {
				was, all := s.look(t), s.tables(t)
				n := s.begin(t)
				to := s.save(t, n)
				e := call(s, n)()
				if left >= need {
					wantErr(t, what, e, api.OK)
					if left > need {
						// A page is left.
						s.wantCount(t, s.d.Room()-left+need)
					}
				} else {
					wantErr(t, what, e, api.ErrSpace)
					s.wantSamePages(t, what, was)
					s.wantAll(t, all...)
					if at := s.save(t, n); at != to {
						t.Errorf("%s: Save: %d, not %d", what, at, to)
					}
					// What was done goes on, and back.
					s.drop(t, n, "a")
				}
				s.abort(t, n)
				s.wantAll(t, all...)
				if t.Failed() {
					t.Fatal(what, "rows:", had, "left:", left)
				}
				if left >= need && need == 2 {
					// The catalog has a page more now.
					break
				}
			}
		}
	}
}

// wantCount asks how many pages are taken.
func (s store) wantCount(t *testing.T, want int) {
	t.Helper()
	if n := space.Count(s.get(t, api.MapPage)); n != want {
		t.Errorf("taken: %d, not %d", n, want)
	}
}

// 17.2: Drop needs no page: on a full disk it is done, and goes back.
func TestDropOnFullDisk(t *testing.T) {
	s, want := stocked(t)
	s.claimAll(t, 0)
	n := s.begin(t)
	wantTable(t, "Drop", s.drop(t, n, "aaaa"), want[0])
	s.to(t, n, 0)
	s.wantAll(t, want...)
	s.drop(t, n, "bbbb")
	s.commit(t, n)
	s.wantAll(t, want[0])
}

// brink is a store whose catalog has rows to a page's brink, or to one less.
func brink(t *testing.T, rows int) store {
	t.Helper()
	s := begun(t)
	n := s.begin(t)
	s.create(t, n, "a", 2)
	s.index(t, n, "a", "w", true, 0)
	s.index(t, n, "a", "x", true, 0, 1)
	for i := 3; i < rows; i++ {
		s.create(t, n, fmt.Sprint("b", i), 1)
	}
	s.commit(t, n)
	return s
}

// 17.2, R2, T4: a log that is full in the midst of each, wherever that is: it says so, what it did is taken back, and the catalog is as it was; a page more of it is nested, and stays.
func TestLogFull(t *testing.T) {
	for _, rows := range []int{pageSlots - 1, pageSlots} {
		for what, call := range map[string]func(store, int) func() api.Errno{
			"Create":      func(s store, n int) func() api.Errno { return s.creates(n, "c", 1) },
			"CreateIndex": func(s store, n int) func() api.Errno { return s.indexes(n, "a", "c", 1, 0) },
			"Drop":        func(s store, n int) func() api.Errno { return s.drops(n, "a") },
		} {
			failed, midst := 0, 0
			for free := 0; ; free += 29 {
				s := brink(t, rows)
				was, all := s.look(t), s.tables(t)
				n := s.begin(t)
				from := s.l.End()
				if failed%16 == 1 {
					s.fill(t, free)
				} else {
					s.leave(t, free)
				}
				e := call(s, n)()
				if e == api.OK {
					s.abort(t, n)
					s.wantAll(t, all...)
					break
				}
				failed++
				wantErr(t, what, e, api.ErrLog)
				if slices.Contains(kinds(records(t, s.l, from)), api.RecCLR) {
					midst++
				}
				s.wantAll(t, all...)
				s.wantEmpty(t, all...)
				if pages, _ := heap.Pages(s.Manager, api.RootPage); len(pages) == 1 {
					s.wantSamePages(t, what, was)
				} else {
					s.wantCount(t, space.Count(was.pages[0])+1)
				}
				if at := s.save(t, n); at != 0 {
					t.Errorf("%s: Save: %d", what, at)
				}
				s.abort(t, n)
				s.wantAll(t, all...)
				if t.Failed() {
					t.Fatal(what, "rows:", rows, "free:", free)
				}
			}
			if failed < 5 || midst < 3 {
				t.Error(what, "failed:", failed, "in the midst:", midst)
			}
		}
	}
}

// T4: however full the log is, all that are under way go back.
func TestBackInFullLog(t *testing.T) {
	for free := 0; free < 4000; free += 301 {
		s, want := stocked(t)
		a, b := s.begin(t), s.begin(t)
		s.create(t, a, "a", 1)
		s.create(t, b, "b", 1)
		s.fill(t, free)
		for i := 0; ; i++ {
			if e := s.creates(a, fmt.Sprint("c", i), 1)(); e != api.OK {
				wantErr(t, "Create", e, api.ErrLog)
				break
			}
			if e := s.indexes(b, "b", fmt.Sprint("x", i), 0)(); e != api.OK && e != api.ErrMany {
				wantErr(t, "CreateIndex", e, api.ErrLog)
				break
			}
		}
		s.drops(b, "bbbb")()
		s.fill(t, 0)
		s.abort(t, b)
		s.abort(t, a)
		s.wantAll(t, want...)
		s.wantEmpty(t, want...)
		if s.l.Kept() != 0 || len(s.All()) != 0 {
			t.Errorf("kept: %d, under way: %v", s.l.Kept(), s.All())
		}
		if t.Failed() {
			t.Fatal("free:", free)
		}
	}
}

// 17.2, R2: a fresh page that can't be had, in the midst: what was done is taken back.
func TestFreshPageUnreadable(t *testing.T) {
	// Of a catalog whose page is full: the page of the table, or of the index, and the catalog's next one.
	for _, bad := range []api.Page{10, 11} {
		s := brink(t, pageSlots)
		all := s.tables(t)
		for _, p := range []api.Page{bad, bad + api.MaxPages} {
			wantErr(t, "Write", s.d.Write(p, strings.Repeat("#", api.PageBytes)), api.OK)
		}
		n := s.begin(t)
		for range 2 {
			wantErr(t, "Create", s.creates(n, "c", 1)(), api.ErrCorrupt)
			wantErr(t, "CreateIndex", s.indexes(n, "a", "c", 0)(), api.ErrCorrupt)
			s.wantAll(t, all...)
			s.wantEmpty(t, all...)
			s.wantTaken(t, 1, 2, 3, 4, 5, 6, 7, 8, 9)
			if at := s.save(t, n); at != 0 {
				t.Error("Save:", at)
			}
		}
		s.commit(t, n)
		if t.Failed() {
			t.Fatal("page", bad)
		}
	}
}
