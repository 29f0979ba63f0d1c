package catalog_test

import (
	"fmt"
	"slices"
	"strings"
	"testing"

	"girder/api"
	"girder/catalog"
	"girder/disk"
	"girder/heap"
	"girder/page"
	"girder/pool"
	"girder/rec"
	"girder/space"
	"girder/tree"
	"girder/txn"
	"girder/undo"
	"girder/wal"
)

const (
	room   = 64 // pages of the disks of these tests, where nothing else is said
	frames = 32 // of their pools

	pageSlots = 7 // rows of a page
)

func wantErr(t *testing.T, what string, e, want api.Errno) {
	t.Helper()
	if e != want {
		t.Errorf("%s: %d, not %d", what, e, want)
	}
}

// store is a manager, and all that it stands on.
type store struct {
	*txn.Manager
	d *disk.Disk
	l *wal.Log
	p *pool.Pool
}

// over is a manager over a disk as it is.
func over(t *testing.T, d *disk.Disk, frames int) store {
	t.Helper()
	l, _, e := wal.Open(d)
	wantErr(t, "wal.Open", e, api.OK)
	p, e := pool.New(d, l, frames)
	wantErr(t, "pool.New", e, api.OK)
	return store{Manager: txn.New(p), d: d, l: l, p: p}
}

// bare is a manager over a new disk, with nothing on it.
func bare(t *testing.T, room, frames int) store {
	t.Helper()
	d, e := disk.New(room)
	wantErr(t, "disk.New", e, api.OK)
	return over(t, d, frames)
}

// laid is a manager over a new disk, with the map and the catalog.
func laid(t *testing.T, room, frames int) store {
	t.Helper()
	s := bare(t, room, frames)
	wantErr(t, "Begin", catalog.Begin(s.Manager), api.OK)
	return s
}

// begun is a manager as most tests need it.
func begun(t *testing.T) store {
	t.Helper()
	return laid(t, room, frames)
}

func (s store) begin(t *testing.T) int {
	t.Helper()
	n, e := s.Begin()
	if e != api.OK {
		t.Fatal("Begin:", e)
	}
	return n
}

func (s store) commit(t *testing.T, n int) {
	t.Helper()
	wantErr(t, "Commit", s.Commit(n), api.OK)
}

func (s store) abort(t *testing.T, n int) {
	t.Helper()
	wantErr(t, "Abort", undo.Abort(s.Manager, n), api.OK)
}

// to goes back to a place.
func (s store) to(t *testing.T, n int, to api.LSN) {
	t.Helper()
	wantErr(t, "To", undo.To(s.Manager, n, to), api.OK)
}

// save is a savepoint.
func (s store) save(t *testing.T, n int) api.LSN {
	t.Helper()
	at, e := s.Save(n)
	wantErr(t, "Save", e, api.OK)
	return at
}

// get is a page.
func (s store) get(t *testing.T, n api.Page) api.Sheet {
	t.Helper()
	x, e := s.p.Get(n)
	if e != api.OK {
		t.Fatalf("page %d: %d", n, e)
	}
	return x
}

// create creates a table.
func (s store) create(t *testing.T, n int, name string, cols int) api.Table {
	t.Helper()
	x, e := catalog.Create(s.Manager, n, name, cols)
	if e != api.OK {
		t.Fatalf("Create(%s, %d): %d", name, cols, e)
	}
	return x
}

// index creates an index.
func (s store) index(t *testing.T, n int, table, name string, unique bool, cols ...int) api.Index {
	t.Helper()
	x, e := catalog.CreateIndex(s.Manager, n, table, name, cols, unique)
	if e != api.OK {
		t.Fatalf("CreateIndex(%s, %s, %v): %d", table, name, cols, e)
	}
	return x
}

// drop drops a table.
func (s store) drop(t *testing.T, n int, name string) api.Table {
	t.Helper()
	x, e := catalog.Drop(s.Manager, n, name)
	if e != api.OK {
		t.Fatalf("Drop(%s): %d", name, e)
	}
	return x
}

// plant puts rows into the catalog as they are, in a transaction of its own.
func (s store) plant(t *testing.T, rows ...string) {
	t.Helper()
	n := s.begin(t)
	for _, row := range rows {
		r, is, e := heap.Place(s.Manager, api.RootPage, func(api.RID) bool { return true })
		if e == api.OK && !is {
			wantErr(t, "Extend", heap.Extend(s.Manager, n, api.RootPage), api.OK)
			r, _, e = heap.Place(s.Manager, api.RootPage, func(api.RID) bool { return true })
		}
		wantErr(t, "Place", e, api.OK)
		wantErr(t, "Put", heap.Put(s.Manager, n, r, row), api.OK)
	}
	s.commit(t, n)
}

// rows is the rows of the catalog, by their places.
func (s store) rows(t *testing.T) []string {
	t.Helper()
	l, e := heap.Scan(s.Manager, api.RootPage)
	wantErr(t, "Scan", e, api.OK)
	var rows []string
	for _, x := range l {
		rows = append(rows, x.Row)
	}
	return rows
}

// number is a number as it stands in a row: its kind, and eight bytes, the lowest first.
func number(n uint64) string {
	b := []byte{1}
	for i := range 8 {
		b = append(b, byte(n>>(8*i)))
	}
	return string(b)
}

// row is a row of the catalog, its bytes laid by hand: four values, a text and three numbers.
func row(text string, numbers ...uint64) string {
	s := string([]byte{byte(1 + len(numbers)), 2, byte(len(text))}) + text
	for _, n := range numbers {
		s += number(n)
	}
	return s
}

// index is an index.
func index(name string, id int, root api.Page, unique bool, cols ...int) api.Index {
	return api.Index{Name: name, ID: id, Root: root, Cols: cols, Unique: unique}
}

// table is a table.
func table(name string, id int, first api.Page, cols int, l ...api.Index) api.Table {
	return api.Table{Name: name, ID: id, First: first, Cols: cols, Indexes: l}
}

// told is a value as a text, in which lists of no length are the same.
func told(x any) string { return strings.ReplaceAll(fmt.Sprintf("%+v", x), "<nil>", "[]") }

// wantTable asks for a table that a call told.
func wantTable(t *testing.T, what string, is, want api.Table) {
	t.Helper()
	if told(is) != told(want) {
		t.Errorf("%s: %+v, not %+v", what, is, want)
	}
}

// wantIndex asks for an index that a call told.
func wantIndex(t *testing.T, what string, is, want api.Index) {
	t.Helper()
	if told(is) != told(want) {
		t.Errorf("%s: %+v, not %+v", what, is, want)
	}
}

// wantAll asks for all tables, and that each is found by its name.
func (s store) wantAll(t *testing.T, want ...api.Table) {
	t.Helper()
	l, e := catalog.All(s.Manager)
	if e != api.OK || told(l) != told(want) {
		t.Errorf("All: %+v, %d, not %+v", l, e, want)
	}
	for _, x := range want {
		is, e := catalog.Find(s.Manager, x.Name)
		wantErr(t, "Find", e, api.OK)
		wantTable(t, "Find", is, x)
	}
}

// wantNone asks that there is no table of some names.
func (s store) wantNone(t *testing.T, names ...string) {
	t.Helper()
	for _, name := range names {
		x, e := catalog.Find(s.Manager, name)
		wantErr(t, "Find", e, api.ErrTable)
		wantTable(t, "Find", x, api.Table{})
	}
}

// wantTaken asks which pages are taken.
func (s store) wantTaken(t *testing.T, want ...api.Page) {
	t.Helper()
	if l := space.All(s.get(t, api.MapPage)); !slices.Equal(l, want) {
		t.Errorf("taken: %v, not %v", l, want)
	}
}

// wantPage asks for what stands in a page, but its LSN.
func (s store) wantPage(t *testing.T, want api.Sheet) {
	t.Helper()
	if x := s.get(t, want.Number); !page.Same(x, want) {
		t.Errorf("page %d: %#v, not %#v", want.Number, x, want)
	}
}

// wantEmpty asks that tables have one page each, without rows, and indexes a root each, without entries, none of them twice, all taken.
func (s store) wantEmpty(t *testing.T, l ...api.Table) {
	t.Helper()
	pages, e := heap.Pages(s.Manager, api.RootPage)
	wantErr(t, "Pages", e, api.OK)
	used := append([]api.Page{api.MapPage}, pages...)
	for _, x := range l {
		pages, e := heap.Pages(s.Manager, x.First)
		rows, _ := heap.Scan(s.Manager, x.First)
		if len(pages) != 1 || len(rows) != 0 || e != api.OK {
			t.Errorf("table %s: pages %v, rows %v, %d", x.Name, pages, rows, e)
		}
		used = append(used, x.First)
		for _, y := range x.Indexes {
			pages, e := tree.Check(s.p, y.Root)
			items, _ := tree.All(s.p, y.Root)
			if len(pages) != 1 || len(items) != 0 || e != api.OK {
				t.Errorf("index %s: pages %v, items %v, %d", y.Name, pages, items, e)
			}
			used = append(used, y.Root)
		}
	}
	slices.Sort(used)
	for i, n := range used {
		if i > 0 && n == used[i-1] || !space.Taken(s.get(t, api.MapPage), n) {
			t.Errorf("page %d is in use twice, or free", n)
		}
	}
}

// seen is all that a store tells: its pages, its log, its transactions.
type seen struct {
	pages           []api.Sheet
	all             []api.TxState
	end             api.LSN
	kept, log, most int
}

func (s store) look(t *testing.T) seen {
	t.Helper()
	x := seen{all: s.All(), end: s.l.End(), kept: s.l.Kept(), log: s.l.Len(), most: s.Coming()}
	for n := range api.Page(s.d.Room()) {
		x.pages = append(x.pages, s.get(t, n+1))
	}
	return x
}

// wantSame asks that nothing has changed.
func (s store) wantSame(t *testing.T, what string, was seen) {
	t.Helper()
	is := s.look(t)
	if is.end != was.end || is.kept != was.kept || is.log != was.log || is.most != was.most || !slices.Equal(is.all, was.all) {
		t.Errorf("%s: log and transactions: %d, %d, %d, %v; were %d, %d, %d, %v", what, is.end, is.kept, is.log, is.all, was.end, was.kept, was.log, was.all)
	}
	s.wantSamePages(t, what, was)
}

// wantSamePages asks that what stands in the pages has not changed.
func (s store) wantSamePages(t *testing.T, what string, was seen) {
	t.Helper()
	for i, x := range was.pages {
		if y := s.get(t, x.Number); !page.Same(x, y) {
			t.Errorf("%s: page %d: %#v was %#v", what, i+1, y, x)
		}
	}
}

// wantFails asks that a call answers an error and changes nothing.
func (s store) wantFails(t *testing.T, what string, want api.Errno, call func() api.Errno) {
	t.Helper()
	was := s.look(t)
	wantErr(t, what, call(), want)
	s.wantSame(t, what, was)
}

// creates, indexes and drops are calls that tell nothing else with an error, or 777.
func (s store) creates(tx int, name string, cols int) func() api.Errno {
	return func() api.Errno {
		x, e := catalog.Create(s.Manager, tx, name, cols)
		return nothing(e, told(x) == told(api.Table{}))
	}
}

func (s store) indexes(tx int, table, name string, cols ...int) func() api.Errno {
	return func() api.Errno {
		x, e := catalog.CreateIndex(s.Manager, tx, table, name, cols, true)
		return nothing(e, told(x) == told(api.Index{}))
	}
}

func (s store) drops(tx int, name string) func() api.Errno {
	return func() api.Errno {
		x, e := catalog.Drop(s.Manager, tx, name)
		return nothing(e, told(x) == told(api.Table{}))
	}
}

// nothing is an error, or 777, if something else was told with it.
func nothing(e api.Errno, is bool) api.Errno {
	if e != api.OK && !is {
		return 777
	}
	return e
}

// placed is a record and its place.
type placed struct {
	at api.LSN
	r  api.Rec
}

// filler is what records begin with that only fill the log: no record of the program does.
const filler = "\xff"

// leave keeps so much of the log that just so many bytes are free.
func (s store) leave(t *testing.T, free int) {
	t.Helper()
	wantErr(t, "Keep", s.l.Keep(s.l.Room()-s.l.Kept()-free), api.OK)
}

// fill puts records into the log until just so many bytes are free beside what is kept.
func (s store) fill(t *testing.T, free int) {
	t.Helper()
	const least = api.FrameBytes + 1
	for left := s.l.Room() - s.l.Kept() - free; left >= least; left = s.l.Room() - s.l.Kept() - free {
		n := min(left, api.FrameBytes+api.MaxRecord)
		if rest := left - n; rest > 0 && rest < least {
			n -= least
		}
		_, e := s.l.Append(strings.Repeat(filler, n-api.FrameBytes))
		wantErr(t, "Append", e, api.OK)
	}
}

// claimAll takes pages of the disk that are free, the greatest first, until so many are left.
func (s store) claimAll(t *testing.T, left int) {
	t.Helper()
	n := s.begin(t)
	for p := api.Page(s.d.Room()); p > 0; p-- {
		x := s.get(t, api.MapPage)
		if space.Taken(x, p) || space.Count(x) >= s.d.Room()-left {
			continue
		}
		op, e := space.Claim(x, p)
		wantErr(t, "Claim", e, api.OK)
		_, e = s.Log(n, api.Change{Page: api.MapPage, Op: op})
		wantErr(t, "Log", e, api.OK)
	}
	s.commit(t, n)
}

// records is all records of a log from a place on, but those that only fill it.
func records(t *testing.T, l *wal.Log, from api.LSN) []placed {
	t.Helper()
	var all []placed
	for at := from; at != l.End(); {
		s, next, here := l.Get(at)
		if !here {
			t.Fatalf("no record at %d", at)
		}
		if !strings.HasPrefix(s, filler) {
			r, e := rec.Decode(s)
			wantErr(t, "rec.Decode", e, api.OK)
			all = append(all, placed{at, r})
		}
		at = next
	}
	return all
}

// kinds is the kinds of some records.
func kinds(l []placed) []int {
	var k []int
	for _, x := range l {
		k = append(k, x.r.Kind)
	}
	return k
}
