package heap_test

import (
	"cmp"
	"maps"
	"math/rand"
	"slices"
	"testing"

	"girder/api"
	"girder/heap"
	"girder/page"
	"girder/space"
)

// The model has tables as lists of pages, how many slots each page has, and the rows by their places. Who changed a row has its place for itself until it ends. To take back is to lay what was there, the last one first.

const (
	workers = 3
	tables  = 2 // that are there for all
)

// past is a change that can be undone: behind which place of the log it was done, and what lays it as it was.
type past struct {
	at  api.LSN
	was func()
}

// job is a transaction of a worker.
type job struct {
	tx    int
	past  []past
	saves []api.LSN
	own   api.Page // a table of its own, that it created; 0: none
	wrote map[api.RID]int
}

// walk is a long play of some transactions at one time, and what it must come to.
type walk struct {
	store
	t      *testing.T
	r      *rand.Rand
	pages  map[api.Page][]api.Page // of a table, by its first page
	slots  map[api.Page]int
	rows   map[api.RID]string
	taken  map[api.Page]int
	shared []api.Page
	jobs   [workers]*job
	sure   map[api.RID]string // rows that committed
	known  []api.Page         // tables that committed
	points []point
	steps  int
}

// point is what has committed at a place of the log.
type point struct {
	at    api.LSN
	rows  map[api.RID]string
	known []api.Page
}

// newWalk is a walk with tables that are there for all.
func newWalk(t *testing.T, seed int64, room, frames int) *walk {
	t.Helper()
	w := &walk{
		store: laid(t, room, frames, 2), t: t, r: rand.New(rand.NewSource(seed)),
		pages: map[api.Page][]api.Page{}, slots: map[api.Page]int{}, rows: map[api.RID]string{},
		taken: map[api.Page]int{1: 1, 2: 1}, sure: map[api.RID]string{},
	}
	j := &job{tx: w.begin(t), wrote: map[api.RID]int{}}
	for range tables {
		w.create(j)
		w.shared = append(w.shared, j.own)
		w.known = append(w.known, j.own)
		j.own = 0
	}
	w.jobs[0] = j
	w.commit(0)
	return w
}

// least is the least page that is free.
func (w *walk) least() api.Page {
	for p := api.Page(1); p <= api.Page(w.d.Room()); p++ {
		if w.taken[p] == 0 {
			return p
		}
	}
	return 0
}

// did notes a change, and how it is taken back.
func (w *walk) did(j *job, was func()) {
	j.past = append(j.past, past{w.save(w.t, j.tx), was})
}

// create begins a table of a job's own.
func (w *walk) create(j *job) {
	w.t.Helper()
	p := w.least()
	got, e := heap.Create(w.Manager, j.tx)
	if p == 0 {
		if got != 0 || e != api.ErrSpace {
			w.t.Fatalf("step %d: Create: %d, %d", w.steps, got, e)
		}
		return
	}
	if got != p || e != api.OK {
		w.t.Fatalf("step %d: Create: %d, %d, not %d", w.steps, got, e, p)
	}
	w.taken[p] = 1
	w.pages[p] = []api.Page{p}
	w.slots[p] = 0
	j.own = p
	w.did(j, func() {
		delete(w.taken, p)
		delete(w.pages, p)
		delete(w.slots, p)
		j.own = 0
	})
}

// extend puts a page behind a table, which stays.
func (w *walk) extend(j *job, first api.Page) {
	w.t.Helper()
	p := w.least()
	e := heap.Extend(w.Manager, j.tx, first)
	if p == 0 {
		wantErr(w.t, "Extend", e, api.ErrSpace)
		return
	}
	wantErr(w.t, "Extend", e, api.OK)
	w.taken[p] = 1
	w.pages[first] = append(w.pages[first], p)
	w.slots[p] = 0
}

// others tells whether another one has a place for itself.
func (w *walk) others(j *job, r api.RID) bool {
	for _, x := range w.jobs {
		if x != nil && x != j && x.wrote[r] > 0 {
			return true
		}
	}
	return false
}

// place is the first place of a table without a live row that nobody else has.
func (w *walk) place(j *job, first api.Page) (api.RID, bool) {
	for _, p := range w.pages[first] {
		for i := range min(w.slots[p]+1, pageSlots) {
			r := api.RID{Page: p, Slot: i}
			if _, live := w.rows[r]; !live && !w.others(j, r) {
				return r, true
			}
		}
	}
	return api.RID{}, false
}

// write changes what is at a place, for a job; none: no row.
func (w *walk) write(j *job, r api.RID, row string, none bool) {
	old, live := w.rows[r]
	if none {
		delete(w.rows, r)
	} else {
		w.rows[r] = row
	}
	j.wrote[r]++
	w.did(j, func() {
		// The place stays who changed it until it ends.
		delete(w.rows, r)
		if live {
			w.rows[r] = old
		}
	})
}

// put puts a row into a table, with a page more, if there is no place.
func (w *walk) put(j *job, first api.Page) {
	w.t.Helper()
	want, there := w.place(j, first)
	r, is, e := heap.Place(w.Manager, first, func(r api.RID) bool { return !w.others(j, r) })
	if r != want || is != there || e != api.OK {
		w.t.Fatalf("step %d: Place: %v, %t, %d, not %v, %t", w.steps, r, is, e, want, there)
	}
	if !there {
		w.extend(j, first)
		return
	}
	row := long(w.r.Intn(api.MaxRow + 1))
	wantErr(w.t, "Put", heap.Put(w.Manager, j.tx, r, row), api.OK)
	w.slots[r.Page] = max(w.slots[r.Page], r.Slot+1)
	w.write(j, r, row, false)
}

// some is a place of a table that a job may change.
func (w *walk) some(j *job, first api.Page) (api.RID, bool) {
	pages := w.pages[first]
	for range 20 {
		r := api.RID{Page: pages[w.r.Intn(len(pages))], Slot: w.r.Intn(pageSlots)}
		if _, live := w.rows[r]; live && !w.others(j, r) {
			return r, true
		}
	}
	return api.RID{}, false
}

// change takes a row away, or changes it.
func (w *walk) change(j *job, first api.Page) {
	w.t.Helper()
	r, is := w.some(j, first)
	if !is {
		return
	}
	if w.r.Intn(2) == 0 {
		wantErr(w.t, "Delete", heap.Delete(w.Manager, j.tx, r), api.OK)
		w.write(j, r, "", true)
		return
	}
	row := long(w.r.Intn(api.MaxRow + 1))
	wantErr(w.t, "Update", heap.Update(w.Manager, j.tx, r, row), api.OK)
	w.write(j, r, row, false)
}

// wrong asks for something that may not be.
func (w *walk) wrong(j *job, first api.Page) {
	w.t.Helper()
	p := w.pages[first][w.r.Intn(len(w.pages[first]))]
	r := api.RID{Page: p, Slot: w.r.Intn(pageSlots+3) - 1}
	_, live := w.rows[r]
	switch {
	case live:
		wantErr(w.t, "Put", heap.Put(w.Manager, j.tx, r, "x"), api.ErrLive)
		wantErr(w.t, "Update", heap.Update(w.Manager, j.tx, r, long(61)), api.ErrRow)
	default:
		if r.Slot < 0 || r.Slot >= pageSlots || r.Slot > w.slots[p] {
			wantErr(w.t, "Put", heap.Put(w.Manager, j.tx, r, "x"), api.ErrNone)
		}
		wantErr(w.t, "Delete", heap.Delete(w.Manager, j.tx, r), api.ErrNone)
		wantErr(w.t, "Update", heap.Update(w.Manager, j.tx, r, "x"), api.ErrNone)
	}
}

// back takes the model back to a place.
func (w *walk) back(j *job, to api.LSN) {
	for len(j.past) > 0 && j.past[len(j.past)-1].at > to {
		j.past[len(j.past)-1].was()
		j.past = j.past[:len(j.past)-1]
	}
}

// commit ends a worker's transaction.
func (w *walk) commit(i int) {
	w.t.Helper()
	j := w.jobs[i]
	at := w.l.End()
	wantErr(w.t, "Commit", w.Commit(j.tx), api.OK)
	for r := range j.wrote {
		delete(w.sure, r)
		if row, live := w.rows[r]; live {
			w.sure[r] = row
		}
	}
	if j.own != 0 {
		w.known = append(w.known, j.own)
		w.shared = append(w.shared, j.own)
	}
	w.points = append(w.points, point{at, maps.Clone(w.sure), slices.Clone(w.known)})
	w.jobs[i] = nil
}

// abort takes a worker's transaction back.
func (w *walk) abort(i int) {
	w.t.Helper()
	j := w.jobs[i]
	wantErr(w.t, "Abort", w.Abort(j.tx, w.undo), api.OK)
	w.back(j, 0)
	if len(j.past) != 0 {
		w.t.Error("not all went back:", j.past)
	}
	w.jobs[i] = nil
}

// step is a step of a walk.
func (w *walk) step() {
	w.t.Helper()
	w.steps++
	i := w.r.Intn(workers)
	j := w.jobs[i]
	if j == nil {
		w.jobs[i] = &job{tx: w.begin(w.t), wrote: map[api.RID]int{}}
		return
	}
	first := w.shared[w.r.Intn(len(w.shared))]
	if j.own != 0 && w.r.Intn(3) == 0 {
		first = j.own
	}
	switch w.r.Intn(24) {
	case 0:
		w.commit(i)
	case 1:
		w.abort(i)
	case 2:
		j.saves = append(j.saves, w.save(w.t, j.tx))
	case 3:
		w.rollback(j)
	case 4:
		if j.own == 0 && len(w.pages) < 6 {
			w.create(j)
		}
	case 5:
		w.extend(j, first)
	case 6:
		w.wrong(j, first)
	case 7, 8, 9, 10, 11, 12, 13:
		w.change(j, first)
	default:
		w.put(j, first)
	}
}

// rollback goes back to a savepoint, and forgets those behind it.
func (w *walk) rollback(j *job) {
	w.t.Helper()
	if len(j.saves) == 0 {
		return
	}
	i := w.r.Intn(len(j.saves))
	wantErr(w.t, "Rollback", w.Rollback(j.tx, j.saves[i], w.undo), api.OK)
	w.back(j, j.saves[i])
	j.saves = j.saves[:i+1]
}

// stored is the rows of a table, in the order of its pages.
func stored(pages []api.Page, rows map[api.RID]string) []api.Stored {
	var l []api.Stored
	for _, p := range pages {
		for i := range pageSlots {
			r := api.RID{Page: p, Slot: i}
			if row, live := rows[r]; live {
				l = append(l, api.Stored{RID: r, Row: row})
			}
		}
	}
	return l
}

// check holds all against the model.
func (w *walk) check() {
	w.t.Helper()
	var taken []api.Page
	for p := range w.taken {
		taken = append(taken, p)
	}
	slices.Sort(taken)
	w.wantTaken(w.t, taken...)
	for first, pages := range w.pages {
		w.wantPages(w.t, first, pages...)
		w.wantScan(w.t, first, stored(pages, w.rows)...)
		for _, p := range pages {
			if n := len(w.get(w.t, p).Slots); n != w.slots[p] {
				w.t.Errorf("page %d: %d slots, not %d", p, n, w.slots[p])
			}
		}
	}
	if w.t.Failed() {
		w.t.Fatal("step", w.steps)
	}
}

// finish ends all that is under way.
func (w *walk) finish() {
	for i, j := range w.jobs {
		if j != nil && i%2 == 0 {
			w.commit(i)
		} else if j != nil {
			w.abort(i)
		}
	}
}

// 10.1 to 10.4, T7: some transactions at one time, over some tables, with pages that leave the pool between, until the disk is full and beyond.
func TestWalks(t *testing.T) {
	full := 0
	for seed := range int64(24) {
		w := newWalk(t, seed, 12+int(seed)%20, 4+int(seed)%12)
		for range 500 {
			w.step()
			if w.r.Intn(10) == 0 {
				wantErr(t, "Write", w.p.Write(1+api.Page(w.r.Intn(12))), api.OK)
			}
			w.check()
		}
		if w.least() == 0 {
			full++
		}
		w.finish()
		w.check()
		if w.l.Kept() != 0 {
			t.Error("kept:", w.l.Kept())
		}
		if t.Failed() {
			t.Fatal("seed", seed)
		}
	}
	if full == 0 {
		t.Error("no disk was full in the end")
	}
}

// wantAsAt holds a store against what had committed at a place of the log.
func (w *walk) wantAsAt(s store, cut api.LSN) {
	w.t.Helper()
	var x point
	for _, y := range w.points {
		if y.at < cut {
			x = y
		}
	}
	s.wantSound(w.t, x.known...)
	var all []api.Stored
	for _, first := range x.known {
		l, e := heap.Scan(s.Manager, first)
		wantErr(w.t, "Scan", e, api.OK)
		all = append(all, l...)
	}
	slices.SortFunc(all, func(a, b api.Stored) int {
		return cmp.Or(cmp.Compare(a.RID.Page, b.RID.Page), cmp.Compare(a.RID.Slot, b.RID.Slot))
	})
	var pages []api.Page
	for p := range api.Page(s.d.Room()) {
		pages = append(pages, p+1)
	}
	if want := stored(pages, x.rows); !slices.Equal(all, want) {
		w.t.Errorf("cut at %d: %v, not %v", cut, all, want)
	}
}

// T1, T5, T7: the power fails behind each record of a walk: what committed stays, all else goes, and the tables are whole.
func TestWalksCutOff(t *testing.T) {
	for seed := range int64(4) {
		w := newWalk(t, 1000+seed, 24, frames)
		from := w.points[0].at
		for range 200 {
			w.step()
		}
		wantErr(t, "Flush", w.l.Flush(w.l.End()), api.OK)
		for _, x := range records(t, w.l) {
			if x.at <= from {
				continue
			}
			s := w.cut(t, x.at)
			w.wantAsAt(s, x.at)
			if t.Failed() {
				t.Fatal("seed", seed, "cut at", x.at)
			}
		}
	}
}

// T1: the power fails somewhere, in a pool that writes pages early: what committed is there, again and again.
func TestWalksFall(t *testing.T) {
	for seed := range int64(60) {
		w := newWalk(t, 2000+seed, 24, 4+int(seed)%4)
		for range 150 + w.r.Intn(150) {
			w.step()
		}
		cut := w.l.Flushed()
		w.d.Crash(api.Fall{Keep: w.r.Uint64()})
		for range 3 {
			w.d.Up()
			s := risen(t, w.d, 4)
			w.wantAsAt(s, cut)
			s.d.Crash(api.Fall{Keep: w.r.Uint64(), Log: w.r.Intn(200)})
		}
		if t.Failed() {
			t.Fatal("seed", seed)
		}
	}
}

// R5: the same calls have the same answers.
func TestAgain(t *testing.T) {
	one, two := newWalk(t, 77, 16, 5), newWalk(t, 77, 16, 5)
	for range 300 {
		one.step()
		two.step()
		if one.l.End() != two.l.End() || !slices.Equal(one.All(), two.All()) {
			t.Fatal("step", one.steps)
		}
	}
	for p := api.Page(1); p <= 16; p++ {
		a, b := one.get(t, p), two.get(t, p)
		if a.LSN != b.LSN || !page.Same(a, b) {
			t.Error("page", p)
		}
	}
	if space.Count(one.get(t, 1)) < 5 {
		t.Error("the walk did too little")
	}
}
