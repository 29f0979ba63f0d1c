package restart_test

import (
	"fmt"
	"slices"
	"testing"

	"girder/api"
	"girder/heap"
	"girder/page"
	"girder/smo"
	"girder/space"
	"girder/tree"
	"girder/undo"
)

// back is a compensation of a transaction, and where undoing goes on from it.
type back struct {
	tx   int
	next api.LSN
}

// wantBacks asks which compensations stand in a log behind a place, in order.
func wantBacks(t *testing.T, s store, from api.LSN, want ...back) {
	t.Helper()
	var is []back
	for _, x := range records(t, s.l, from) {
		if x.r.Kind == api.RecCLR {
			is = append(is, back{x.r.Tx, x.r.Next})
		}
	}
	if !slices.Equal(is, want) {
		t.Errorf("taken back: %v, not %v", is, want)
	}
}

// 21.1: losers whose records stand between one another: always the record with the greatest LSN is taken back, whoever it is of; then each is ended, by their numbers.
func TestGreatestFirst(t *testing.T) {
	s := fresh(t)
	a, b, c := s.begin(t), s.begin(t), s.begin(t)
	// Each puts its slot in ahead of all others: what stands first must go first.
	var at []api.LSN
	for i, n := range []int{c, a, a, b, c, b, a, c, c, b} {
		at = append(at, s.put(t, n, 5, fmt.Sprint(i)))
	}
	end := s.l.End()
	s.flush(t)
	s = wantOpen(t, "three losers", s.falls(), api.Risen{Records: 12, Redone: 10, Losers: 3, Undone: 10})
	wantBacks(t, s, end, back{b, at[5]}, back{c, at[7]}, back{c, at[4]}, back{a, at[2]}, back{b, at[3]}, back{c, at[0]}, back{b, 0}, back{a, at[1]}, back{a, 0}, back{c, 0})
	s.wantSlots(t, 5)
	var ends []back
	for _, x := range records(t, s.l, end)[10:16] {
		ends = append(ends, back{x.r.Tx, api.LSN(x.r.Kind)})
	}
	want := []back{{a, api.RecAbort}, {a, api.RecEnd}, {b, api.RecAbort}, {b, api.RecEnd}, {c, api.RecAbort}, {c, api.RecEnd}}
	if !slices.Equal(ends, want) {
		t.Errorf("ended: %v, not %v", ends, want)
	}
}

// 21.1: winners are ended ahead of all that is taken back, by their numbers; losers that were aborting get no RecAbort once more.
func TestWinnersFirst(t *testing.T) {
	s := fresh(t)
	var l []int
	for range 6 {
		l = append(l, s.begin(t))
	}
	last := map[int]api.LSN{}
	for i := range 6 {
		n := l[5-i]
		last[n] = s.put(t, n, api.Page(5+i), "a")
	}
	s.partly(t, l[4], 0)
	for _, n := range []int{l[3], l[1], l[5]} {
		s.lay(t, api.Rec{Kind: api.RecCommit, Tx: n, Prev: last[n]})
	}
	end := s.l.End()
	s.flush(t)
	s = wantOpen(t, "winners and losers", s.falls(), api.Risen{Records: 12, Redone: 6, Losers: 3, Winners: 3, Undone: 3})
	var is [][2]int
	for _, x := range records(t, s.l, end) {
		is = append(is, [2]int{x.r.Kind, x.r.Tx})
	}
	want := [][2]int{
		{api.RecEnd, l[1]}, {api.RecEnd, l[3]}, {api.RecEnd, l[5]},
		{api.RecCLR, l[0]}, {api.RecCLR, l[2]}, {api.RecCLR, l[4]},
		{api.RecAbort, l[0]}, {api.RecEnd, l[0]}, {api.RecAbort, l[2]}, {api.RecEnd, l[2]}, {api.RecEnd, l[4]},
		{api.RecBegin, 0}, {api.RecCheck, l[5]},
	}
	if !slices.Equal(is, want) {
		t.Errorf("put: %v, not %v", is, want)
	}
}

// 21.1: a loser that went back to a savepoint: what it took back is not taken back again.
func TestSavepoint(t *testing.T) {
	s := fresh(t)
	n := s.begin(t)
	a := s.put(t, n, 5, "a")
	s.put(t, n, 5, "b")
	s.put(t, n, 5, "c")
	wantErr(t, "To", undo.To(s.Manager, n, a), api.OK)
	d := s.put(t, n, 5, "d")
	end := s.l.End()
	s.flush(t)
	s = wantOpen(t, "a savepoint", s.falls(), api.Risen{Records: 8, Redone: 6, Losers: 1, Undone: 2})
	// The one ahead of the last change is the compensation that leads to the savepoint.
	ahead, _ := s.l.Back(d)
	wantBacks(t, s, end, back{n, ahead}, back{n, 0})
	s.wantSlots(t, 5)
}

// 21.1: a loser with a nested top action that ended: what that did stays; one with one that did not end: it is taken back.
func TestNestedTopAction(t *testing.T) {
	for _, ended := range []bool{true, false} {
		s := fresh(t)
		n := s.begin(t)
		s.put(t, n, 5, "ahead")
		at, e := s.Save(n)
		wantErr(t, "Save", e, api.OK)
		s.put(t, n, 6, "within")
		s.put(t, n, 7, "within too")
		want := api.Risen{Records: 2 + 4, Redone: 4, Losers: 1, Undone: 4}
		if ended {
			_, e = s.Top(n, at)
			wantErr(t, "Top", e, api.OK)
			want.Records, want.Undone = 2+5, 2
		}
		s.put(t, n, 8, "behind")
		s.flush(t)
		s = wantOpen(t, fmt.Sprint("ended: ", ended), s.falls(), want)
		s.wantSlots(t, 5)
		s.wantSlots(t, 8)
		if ended {
			s.wantSlots(t, 6, "within")
			s.wantSlots(t, 7, "within too")
		} else {
			s.wantSlots(t, 6)
			s.wantSlots(t, 7)
		}
	}
}

// 21.1: a table that grows, cut off at each record: the page more is there wholly, or it is not there; what is taken is in use.
func TestExtendCutOff(t *testing.T) {
	s := fresh(t)
	n := s.begin(t)
	first, e := heap.Create(s.Manager, n)
	wantErr(t, "Create", e, api.OK)
	wantErr(t, "Commit", s.Commit(n), api.OK)
	s.write(t)
	from := s.l.End()
	wantErr(t, "Extend", heap.Extend(s.Manager, s.begin(t), first), api.OK)
	s.flush(t)
	all := records(t, s.l, from)
	for i := range len(all) + 1 {
		end := s.l.End()
		if i < len(all) {
			end = all[i].at
		}
		d := s.d.Clone()
		wantErr(t, "CutLog", d.CutLog(int(end)-1), api.OK)
		x, r := opened(t, d, frames)
		pages, e := heap.Pages(x.Manager, first)
		wantErr(t, "Pages", e, api.OK)
		m, e := x.p.Get(api.MapPage)
		wantErr(t, "Get", e, api.OK)
		long, undone := 1, i
		if i == len(all) {
			long, undone = 2, 0
		}
		if len(pages) != long || space.Count(m) != 2+long || r.Undone != undone || r.Losers != min(i, 1) {
			t.Errorf("%d of %d records: pages %v, %d taken, %+v", i, len(all), pages, space.Count(m), r)
		}
	}
}

// 21.1: losers that changed the map: their bits are turned over again, those of others of the same byte stay.
func TestMap(t *testing.T) {
	s := fresh(t)
	a, b, c := s.begin(t), s.begin(t), s.begin(t)
	var pages []api.Page
	for _, n := range []int{a, b, a, c, b, c} {
		p, e := heap.Allocate(s.Manager, n)
		wantErr(t, "Allocate", e, api.OK)
		pages = append(pages, p)
	}
	wantErr(t, "Release", heap.Release(s.Manager, c, pages[5]), api.OK)
	wantErr(t, "Commit", s.Commit(b), api.OK)
	s.flush(t)
	s = wantOpen(t, "the map", s.falls(), api.Risen{Records: 11, Redone: 7, Losers: 2, Undone: 5})
	m, e := s.p.Get(api.MapPage)
	wantErr(t, "Get", e, api.OK)
	if is := space.All(m); !slices.Equal(is, []api.Page{1, 2, pages[1], pages[4]}) {
		t.Error("taken:", is)
	}
}

// key is an entry whose key is long, so that few have room in a leaf.
func key(i int) api.Entry {
	return api.Entry{Key: fmt.Sprintf("%060d", i), RID: api.RID{Page: 9, Slot: i}}
}

// live is the entries of a tree that are live, and how many leaves there are.
func (s store) live(t *testing.T, root api.Page) ([]int, int) {
	t.Helper()
	_, e := tree.Check(s.p, root)
	wantErr(t, "Check", e, api.OK)
	l, e := tree.All(s.p, root)
	wantErr(t, "All", e, api.OK)
	var is []int
	for _, x := range l {
		if x.Live {
			is = append(is, x.Entry.RID.Slot)
		}
	}
	leaves, e := tree.Leaves(s.p, root)
	wantErr(t, "Leaves", e, api.OK)
	return is, len(leaves)
}

// insertKey puts an entry in.
func (s store) insertKey(t *testing.T, n int, root api.Page, i int) {
	t.Helper()
	wantErr(t, "Insert", smo.Insert(s.Manager, n, root, key(i), nil), api.OK)
}

// root is a tree with some entries, that committed.
func (s store) root(t *testing.T, l ...int) api.Page {
	t.Helper()
	n := s.begin(t)
	root, e := smo.Create(s.Manager, n)
	wantErr(t, "Create", e, api.OK)
	for _, i := range l {
		s.insertKey(t, n, root, i)
	}
	wantErr(t, "Commit", s.Commit(n), api.OK)
	return root
}

// 21.1: losers that changed a tree: leaves that they cut in two stay so, their entries go, wherever others moved them to since, and those that they took out are back.
func TestTree(t *testing.T) {
	s := fresh(t)
	root := s.root(t, 0, 100, 200)
	a, b, c := s.begin(t), s.begin(t), s.begin(t)
	for i := 1; i < 20; i++ {
		s.insertKey(t, a, root, 10*i+1)
		s.insertKey(t, b, root, 10*i+2)
		s.insertKey(t, c, root, 10*i+3)
	}
	wantErr(t, "Delete", smo.Delete(s.Manager, a, root, key(100)), api.OK)
	wantErr(t, "Delete", smo.Delete(s.Manager, b, root, key(0)), api.OK)
	wantErr(t, "Delete", smo.Delete(s.Manager, c, root, key(203-10)), api.OK)
	wantErr(t, "Commit", s.Commit(b), api.OK)
	s.flush(t)
	for _, frames := range []int{4, 9, 100} {
		x, r := opened(t, s.d.Clone(), frames)
		if r.Losers != 2 || r.Undone != 19+1+19+1 {
			t.Errorf("%+v", r)
		}
		want := []int{100, 200}
		for i := 1; i < 20; i++ {
			want = append(want, 10*i+2)
		}
		slices.Sort(want)
		is, leaves := x.live(t, root)
		if !slices.Equal(is, want) || leaves < 10 {
			t.Errorf("live: %v, not %v; %d leaves", is, want, leaves)
		}
	}
}

// 21.1: a leaf cut in two, cut off at each record of it, while another loser's entries stand in that leaf: first the cut is taken back, then the entries are looked for.
func TestCutCutOff(t *testing.T) {
	s := fresh(t)
	root := s.root(t, 10, 20, 30)
	a, b := s.begin(t), s.begin(t)
	s.insertKey(t, a, root, 15)
	s.insertKey(t, a, root, 35)
	_, leaves := s.live(t, root)
	from := s.l.End()
	for i := 0; ; i++ {
		s.insertKey(t, b, root, 21+i)
		if _, more := s.live(t, root); more > leaves {
			break
		}
	}
	s.flush(t)
	kinds := map[int]int{}
	for _, x := range records(t, s.l, from) {
		d := s.d.Clone()
		wantErr(t, "CutLog", d.CutLog(int(x.at)-1), api.OK)
		for _, frames := range []int{4, 30} {
			y, r := opened(t, d.Clone(), frames)
			kinds[r.Losers]++
			if is, _ := y.live(t, root); !slices.Equal(is, []int{10, 20, 30}) {
				t.Errorf("up to %d: live: %v", x.at, is)
			}
		}
	}
	if kinds[1] == 0 || kinds[2] < 20 {
		t.Error("losers:", kinds)
	}
}

// 21.1: rows of losers and of winners in the same pages: puts, changes, and rows that were taken away.
func TestRows(t *testing.T) {
	s := fresh(t)
	n := s.begin(t)
	table, e := heap.Create(s.Manager, n)
	wantErr(t, "Create", e, api.OK)
	for i := range 4 {
		wantErr(t, "Put", heap.Put(s.Manager, n, api.RID{Page: table, Slot: i}, fmt.Sprint("row", i)), api.OK)
	}
	wantErr(t, "Commit", s.Commit(n), api.OK)
	a, b := s.begin(t), s.begin(t)
	wantErr(t, "Update", heap.Update(s.Manager, a, api.RID{Page: table, Slot: 0}, "a"), api.OK)
	wantErr(t, "Update", heap.Update(s.Manager, b, api.RID{Page: table, Slot: 1}, "b"), api.OK)
	wantErr(t, "Delete", heap.Delete(s.Manager, a, api.RID{Page: table, Slot: 2}), api.OK)
	wantErr(t, "Delete", heap.Delete(s.Manager, b, api.RID{Page: table, Slot: 3}), api.OK)
	wantErr(t, "Put", heap.Put(s.Manager, a, api.RID{Page: table, Slot: 4}, "new of a"), api.OK)
	wantErr(t, "Put", heap.Put(s.Manager, b, api.RID{Page: table, Slot: 5}, "new of b"), api.OK)
	wantErr(t, "Commit", s.Commit(b), api.OK)
	s.write(t)
	s, r := opened(t, s.falls(), frames)
	if r.Losers != 1 || r.Undone != 3 {
		t.Errorf("%+v", r)
	}
	rows, e := heap.Scan(s.Manager, table)
	wantErr(t, "Scan", e, api.OK)
	var is []string
	for _, x := range rows {
		is = append(is, fmt.Sprint(x.RID.Slot, x.Row))
	}
	if want := []string{"0row0", "1b", "2row2", "5new of b"}; !slices.Equal(is, want) {
		t.Errorf("%q, not %q", is, want)
	}
	// Nobody has a row any more: all may be changed at once.
	n = s.begin(t)
	for i := range 3 {
		wantErr(t, "Update", heap.Update(s.Manager, n, api.RID{Page: table, Slot: i}, "x"), api.OK)
	}
	wantErr(t, "Put", heap.Put(s.Manager, n, api.RID{Page: table, Slot: 4}, "y"), api.OK)
	wantErr(t, "Commit", s.Commit(n), api.OK)
}

// 21.1: as many losers as there may be, each with a change of one page.
func TestManyLosers(t *testing.T) {
	s := fresh(t)
	wantErr(t, "Put", s.p.Put(page.Blank(5)), api.OK)
	for range api.MaxTx {
		n := s.begin(t)
		s.put(t, n, api.Page(5+n%7), "x")
		s.put(t, n, api.Page(5+n%7), "y")
	}
	s.flush(t)
	wantOpen(t, "many", s.falls(), api.Risen{Records: 2 + 2*api.MaxTx, Redone: 2 * api.MaxTx, Losers: api.MaxTx, Undone: 2 * api.MaxTx})
}
