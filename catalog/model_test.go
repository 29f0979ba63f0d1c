package catalog_test

import (
	"fmt"
	"math/rand"
	"slices"
	"testing"

	"girder/api"
	"girder/catalog"
	"girder/heap"
	"girder/space"
)

// model is tables as they are thought of: each with its indexes, and whether it has a row.
type model []modelTable

type modelTable struct {
	api.Table
	row bool
}

func (m model) clone() model {
	l := slices.Clone(m)
	for i := range l {
		l[i].Indexes = slices.Clone(l[i].Indexes)
	}
	return l
}

// at is the place of a table, or -1.
func (m model) at(name string) int {
	return slices.IndexFunc(m, func(x modelTable) bool { return x.Name == name })
}

// most is the greatest number that is there.
func (m model) most() int {
	most := 0
	for _, x := range m {
		most = max(most, x.ID)
		for _, y := range x.Indexes {
			most = max(most, y.ID)
		}
	}
	return most
}

// tables is what All must tell.
func (m model) tables() []api.Table {
	var l []api.Table
	for _, x := range m {
		l = append(l, x.Table)
	}
	slices.SortFunc(l, func(a, b api.Table) int { return a.ID - b.ID })
	return l
}

// pages is the pages on which tables and indexes begin.
func (m model) pages() []api.Page {
	var l []api.Page
	for _, x := range m {
		l = append(l, x.First)
		for _, y := range x.Indexes {
			l = append(l, y.Root)
		}
	}
	return l
}

// walk is a long play of transactions, one behind the other, and what it must come to.
type walk struct {
	store
	t      *testing.T
	r      *rand.Rand
	tx     int
	now    model
	sure   model // what committed
	saves  []api.LSN
	kept   []model    // at the savepoints
	pages  []api.Page // of what there is, and of what was there since the last commit
	points []point
	met    map[api.Errno]int
	steps  int
}

// point is what had committed at a place of the log.
type point struct {
	at   api.LSN
	sure model
}

func newWalk(t *testing.T, seed int64, room, frames int) *walk {
	t.Helper()
	s := laid(t, room, frames)
	return &walk{store: s, t: t, r: rand.New(rand.NewSource(seed)), tx: s.begin(t), met: map[api.Errno]int{}, points: []point{{at: s.l.End()}}}
}

// name is any name, now and then none.
func (w *walk) name() string {
	if w.r.Intn(30) == 0 {
		return []string{"", "A", "abcdefghijklmnopq"}[w.r.Intn(3)]
	}
	return fmt.Sprint("t", w.r.Intn(20))
}

// told notes an error; with ErrSpace nothing must have changed, whatever the model says.
func (w *walk) told(what string, e, want api.Errno) bool {
	w.t.Helper()
	w.met[e]++
	if want == api.OK && e == api.ErrSpace {
		return false
	}
	if e != want {
		w.t.Fatalf("step %d: %s: %d, not %d", w.steps, what, e, want)
	}
	return e == api.OK
}

// createTable creates a table.
func (w *walk) createTable() {
	name, cols := w.name(), w.r.Intn(40)%6
	want := api.OK
	switch {
	case !catalog.Name(name):
		want = api.ErrName
	case cols < 1 || cols > 4:
		want = api.ErrCols
	case w.now.at(name) >= 0:
		want = api.ErrTwice
	case len(w.now) == 16:
		want = api.ErrMany
	}
	x, e := catalog.Create(w.Manager, w.tx, name, cols)
	if w.told("Create", e, want) {
		wantTable(w.t, "Create", x, table(name, w.now.most()+1, x.First, cols))
		w.now = append(w.now, modelTable{Table: x})
		w.pages = append(w.pages, x.First)
	} else {
		wantTable(w.t, "Create", x, api.Table{})
	}
}

// createIndex creates an index.
func (w *walk) createIndex() {
	of, name := w.name(), fmt.Sprint("i", w.r.Intn(6))
	var cols []int
	for range w.r.Intn(9) % 4 {
		cols = append(cols, w.r.Intn(3))
	}
	unique := w.r.Intn(2) == 0
	at := w.now.at(of)
	want := api.OK
	switch {
	case at < 0:
		want = api.ErrTable
	case len(cols) < 1 || len(cols) > w.now[at].Cols || slices.Max(cols) >= w.now[at].Cols:
		want = api.ErrCols
	case slices.ContainsFunc(w.now[at].Indexes, func(x api.Index) bool { return x.Name == name }):
		want = api.ErrTwice
	case len(w.now[at].Indexes) == 4:
		want = api.ErrMany
	case w.now[at].row:
		want = api.ErrRows
	}
	x, e := catalog.CreateIndex(w.Manager, w.tx, of, name, cols, unique)
	if w.told("CreateIndex", e, want) {
		wantIndex(w.t, "CreateIndex", x, index(name, w.now.most()+1, x.Root, unique, cols...))
		w.now[at].Indexes = append(w.now[at].Indexes, x)
		w.pages = append(w.pages, x.Root)
	} else {
		wantIndex(w.t, "CreateIndex", x, api.Index{})
	}
}

// dropTable drops a table; its pages are released.
func (w *walk) dropTable() {
	name := w.name()
	at := w.now.at(name)
	want := api.OK
	if at < 0 {
		want = api.ErrTable
	}
	x, e := catalog.Drop(w.Manager, w.tx, name)
	if !w.told("Drop", e, want) {
		wantTable(w.t, "Drop", x, api.Table{})
		return
	}
	wantTable(w.t, "Drop", x, w.now[at].Table)
	w.now = slices.Delete(w.now, at, at+1)
}

// release makes the pages free of all that was dropped, in a transaction of its own: ahead of the commit others could lay something on them, and what was dropped could not come back.
func (w *walk) release() {
	used, e := heap.Pages(w.Manager, api.RootPage)
	wantErr(w.t, "Pages", e, api.OK)
	used = append(used, w.now.pages()...)
	n := w.begin(w.t)
	for _, p := range w.pages {
		if !slices.Contains(used, p) && space.Taken(w.get(w.t, api.MapPage), p) {
			wantErr(w.t, "Release", heap.Release(w.Manager, n, p), api.OK)
		}
	}
	w.commit(w.t, n)
	w.pages = w.now.pages()
}

// turnRow puts a row into a table, or takes it out.
func (w *walk) turnRow() {
	if len(w.now) == 0 {
		return
	}
	x := &w.now[w.r.Intn(len(w.now))]
	r := api.RID{Page: x.First}
	if x.row {
		wantErr(w.t, "Delete", heap.Delete(w.Manager, w.tx, r), api.OK)
	} else {
		wantErr(w.t, "Put", heap.Put(w.Manager, w.tx, r, "row"), api.OK)
	}
	x.row = !x.row
}

// end commits, or goes back wholly, and begins anew.
func (w *walk) end(commit bool) {
	if commit {
		at := w.l.End()
		w.commit(w.t, w.tx)
		w.sure = w.now.clone()
		w.points = append(w.points, point{at, w.sure.clone()})
		w.release()
	} else {
		w.abort(w.t, w.tx)
		w.now = w.sure.clone()
	}
	w.saves, w.kept = nil, nil
	w.tx = w.begin(w.t)
}

// back goes back to a savepoint.
func (w *walk) back() {
	if len(w.saves) == 0 {
		return
	}
	i := w.r.Intn(len(w.saves))
	w.to(w.t, w.tx, w.saves[i])
	w.now = w.kept[i].clone()
	w.saves, w.kept = w.saves[:i+1], w.kept[:i+1]
}

// step is a step of a walk.
func (w *walk) step() {
	w.steps++
	switch k := w.r.Intn(100); {
	case k < 4:
		w.end(true)
	case k < 7:
		w.end(false)
	case k < 15:
		w.saves, w.kept = append(w.saves, w.save(w.t, w.tx)), append(w.kept, w.now.clone())
	case k < 20:
		w.back()
	case k < 25:
		w.turnRow()
	case k < 50:
		w.createTable()
	case k < 94:
		w.createIndex()
	default:
		w.dropTable()
	}
}

// wantModel asks that a store has just the tables of a model, with their rows.
func (w *walk) wantModel(s store, want model) {
	w.t.Helper()
	s.wantAll(w.t, want.tables()...)
	for _, x := range want {
		rows, e := heap.Scan(s.Manager, x.First)
		if e != api.OK || len(rows) > 0 != x.row {
			w.t.Errorf("rows of %s: %v, %d", x.Name, rows, e)
		}
	}
	if w.t.Failed() {
		w.t.Fatal("step", w.steps)
	}
}

// 17.1 to 17.3, T7: long walks: what there is is what the model says, behind each step; on disks that get full, too.
func TestWalks(t *testing.T) {
	met := map[api.Errno]int{}
	for seed := range int64(12) {
		w := newWalk(t, seed, []int{12, 30, 400}[seed%3], 4+int(seed)*2)
		for range 900 {
			w.step()
			w.wantModel(w.store, w.now)
		}
		w.end(seed%2 == 0)
		w.wantModel(w.store, w.sure)
		for e, n := range w.met {
			met[e] += n
		}
	}
	for _, e := range []api.Errno{api.OK, api.ErrName, api.ErrCols, api.ErrTwice, api.ErrMany, api.ErrTable, api.ErrRows, api.ErrSpace} {
		if met[e] < 10 {
			t.Errorf("error %d came %d times", e, met[e])
		}
	}
}

// 17.3, T1: the power fails anywhere in a walk: what committed is there, and nothing else.
func TestWalksFall(t *testing.T) {
	for seed := range int64(30) {
		w := newWalk(t, 100+seed, 100, 4+int(seed)%4)
		for range 40 + w.r.Intn(150) {
			w.step()
		}
		cut := w.l.Flushed()
		var want model
		for _, x := range w.points {
			if x.at < cut {
				want = x.sure
			}
		}
		w.d.Crash(api.Fall{Keep: w.r.Uint64()})
		for range 2 {
			w.d.Up()
			s, _ := risen(t, w.d, 4)
			s.wantBegun(t, true)
			w.wantModel(s, want)
			s.d.Crash(api.Fall{Keep: w.r.Uint64(), Log: w.r.Intn(300)})
		}
	}
}

// R5: the same, for any number of frames, and whichever pages leave.
func TestFrames(t *testing.T) {
	var first *walk
	for i, frames := range []int{api.MaxFrames, 4, 7, 16} {
		w := newWalk(t, 42, 60, frames)
		for range 400 {
			if i > 1 && w.steps%5 == 0 {
				w.p.Picks([]int{i, w.steps, -w.steps, 3})
			}
			w.step()
		}
		if first == nil {
			first = w
			continue
		}
		w.wantSame(t, fmt.Sprint(frames, " frames"), first.look(t))
	}
}
