package redo_test

import (
	"fmt"
	"math/rand"
	"slices"
	"strings"
	"testing"

	"girder/analyze"
	"girder/api"
	"girder/catalog"
	"girder/ckpt"
	"girder/disk"
	"girder/heap"
	"girder/page"
	"girder/smo"
	"girder/txn"
	"girder/undo"
)

const wide = 100 // pages of a walk's disk

// walk is a long play of some owners beside one another, each with a table and a tree of its own, until the power fails.
type walk struct {
	store
	m      *txn.Manager
	t      *testing.T
	r      *rand.Rand
	owners []*owner
	fell   bool
	met    map[string]int
}

// owner is one who changes its table and its tree in one transaction behind the other.
type owner struct {
	tx          int // 0: none
	table, root api.Page
	saves       []api.LSN
}

func newWalk(t *testing.T, seed int64, frames int) *walk {
	t.Helper()
	d, e := disk.New(wide)
	wantErr(t, "disk.New", e, api.OK)
	s := over(t, d, frames)
	s.p.Picks([]int{3, 1, 4, 1, 5, 9, 2, 6, 5, 3, 5, 8, 9, 7, 9, 3, 2, 3, 8, 4})
	w := &walk{store: s, m: txn.New(s.p), t: t, r: rand.New(rand.NewSource(seed)), met: map[string]int{}}
	wantErr(t, "Begin", catalog.Begin(w.m), api.OK)
	n, _ := w.m.Begin()
	for range 3 {
		o := &owner{}
		o.table, e = heap.Create(w.m, n)
		wantErr(t, "heap.Create", e, api.OK)
		o.root, e = smo.Create(w.m, n)
		wantErr(t, "smo.Create", e, api.OK)
		w.owners = append(w.owners, o)
	}
	wantErr(t, "Commit", w.m.Commit(n), api.OK)
	return w
}

// told takes what a call answered: whether it was done. The power may fail in each, and some find nothing to do.
func (w *walk) told(what string, e api.Errno, none ...api.Errno) bool {
	w.t.Helper()
	w.met[what]++
	w.fell = w.fell || e == api.ErrDead
	if e != api.OK && e != api.ErrDead && !slices.Contains(none, e) {
		w.t.Fatalf("%s: %d", what, e)
	}
	return e == api.OK
}

// step is a step of one owner.
func (w *walk) step() {
	o := w.owners[w.r.Intn(len(w.owners))]
	switch k := w.r.Intn(100); {
	case o.tx == 0 && k < 20:
		n, _ := w.m.Begin()
		_, _, e := smo.Clean(w.m, n, o.root, func(api.RID) bool { return true })
		if w.told("Clean", e) {
			w.told("Commit", w.m.Commit(n))
		}
	case o.tx == 0:
		o.tx, _ = w.m.Begin()
	case k < 30:
		w.rows(o)
	case k < 75:
		w.entries(o)
	case k < 82:
		at, e := w.m.Save(o.tx)
		wantErr(w.t, "Save", e, api.OK)
		o.saves = append(o.saves, at)
	case k < 88:
		w.back(o)
	case k < 95:
		if w.told("Commit", w.m.Commit(o.tx)) {
			o.tx, o.saves = 0, nil
		}
	default:
		if w.told("Abort", undo.Abort(w.m, o.tx)) {
			o.tx, o.saves = 0, nil
		}
	}
}

// rows puts a row in, changes one, or takes one away.
func (w *walk) rows(o *owner) {
	row := strings.Repeat(fmt.Sprint(w.r.Intn(10)), 1+w.r.Intn(30))
	r, there, e := heap.Place(w.m, o.table, func(api.RID) bool { return w.r.Intn(9) > 0 })
	if e == api.OK && !there {
		w.told("Extend", heap.Extend(w.m, o.tx, o.table))
		return
	}
	switch {
	case e != api.OK:
		w.told("Place", e)
	case w.r.Intn(3) > 0 || r.Slot == 0:
		w.told("Put", heap.Put(w.m, o.tx, r, row))
	case w.r.Intn(2) == 0:
		r.Slot--
		w.told("Delete", heap.Delete(w.m, o.tx, r), api.ErrNone)
	default:
		r.Slot--
		w.told("Update", heap.Update(w.m, o.tx, r, row), api.ErrNone)
	}
}

// entries puts an entry into the tree, or takes one out.
func (w *walk) entries(o *owner) {
	n := w.r.Intn(60)
	en := api.Entry{Key: strings.Repeat(fmt.Sprint(n), 1+n%20), RID: api.RID{Page: 3, Slot: n % 7}}
	if w.r.Intn(3) > 0 {
		w.told("Insert", smo.Insert(w.m, o.tx, o.root, en, nil), api.ErrTwice)
		return
	}
	w.told("Take out", smo.Delete(w.m, o.tx, o.root, en), api.ErrNone)
}

// back goes back to a savepoint.
func (w *walk) back(o *owner) {
	if len(o.saves) == 0 {
		return
	}
	i := w.r.Intn(len(o.saves))
	if w.told("To", undo.To(w.m, o.tx, o.saves[i])) {
		o.saves = o.saves[:i+1]
	}
}

// goOn makes steps until the power fails, or up to many, with a checkpoint each so many.
func (w *walk) goOn(many, every int) {
	for i := 0; i < many && !w.fell; i++ {
		w.step()
		if !w.fell && i%every == every-1 {
			_, e := ckpt.Take(w.m)
			w.told("Take", e)
		}
		if !w.fell && i%19 == 0 {
			w.told("Write", w.p.Write(api.Page(w.r.Intn(20)+1)))
		}
	}
}

// fallen is the disk of a walk into which the power fell.
func fallen(t *testing.T, seed int64) *disk.Disk {
	t.Helper()
	w := newWalk(t, seed, 4+int(seed)%9)
	fall := api.Fall{At: w.d.Calls() + w.r.Intn(300), Keep: w.r.Uint64(), Torn: w.r.Intn(3), Bytes: w.r.Intn(600), Log: w.r.Intn(900)}
	w.d.Plan([]api.Fall{fall})
	w.goOn(1<<20, 5+w.r.Intn(40))
	w.d.Up()
	w.d.Plan(nil)
	return w.d
}

// history is all pages behind all changes of the log, from the first record on, of pages that were blank.
func (s store) history(t *testing.T) map[api.Page]api.Sheet {
	t.Helper()
	all := map[api.Page]api.Sheet{}
	for n := range api.Page(wide) {
		all[n+1] = page.Blank(n + 1)
	}
	for _, x := range s.records(t) {
		if x.r.Kind > api.RecCLR {
			continue
		}
		p, e := page.Apply(all[x.r.Page], x.r.Op, x.at)
		wantErr(t, "Apply", e, api.OK)
		all[x.r.Page] = p
	}
	return all
}

// wantPages asks what all pages are.
func (s store) wantPages(t *testing.T, what string, want map[api.Page]api.Sheet) {
	t.Helper()
	for n := range api.Page(wide) {
		if x, e := s.p.Get(n + 1); !equal(x, want[n+1]) || e != api.OK {
			t.Fatalf("%s: page %d: %+v, %d, not %+v", what, n+1, x, e, want[n+1])
		}
	}
}

// found is what analysis finds.
func (s store) found(t *testing.T) api.Found {
	t.Helper()
	f, e := analyze.Run(s.l)
	wantErr(t, "analyze.Run", e, api.OK)
	return f
}

// due is how many changes of the log redo looks at, and how many of them the disk's pages lack.
func (s store) due(t *testing.T, f api.Found) (int, int) {
	t.Helper()
	all := s.records(t)
	did, stood := 0, 0
	other := over(t, s.d.Clone(), api.MaxFrames)
	for _, x := range f.Dirty {
		p, e := other.p.Get(x.Page)
		wantErr(t, "Get", e, api.OK)
		_, some, others, ok := repeated(p, all, f)
		if !ok {
			t.Fatalf("page %d: a change can't be repeated", x.Page)
		}
		did, stood = did+some, stood+others
	}
	return did, did + stood
}

// 20.1: the chapter's example: behind Run no page lacks a change that the log has; each is as the whole history makes it. Behind falls at any call of the disk, in pools of few frames and of many.
func TestNoPageLacks(t *testing.T) {
	did, stood := 0, 0
	for seed := range int64(150) {
		d := fallen(t, seed)
		for _, frames := range []int{4, 7, api.MaxFrames} {
			s := over(t, d.Clone(), frames)
			s.p.Picks([]int{1, 2, 3, 0, 2, -1, 5})
			f := s.found(t)
			lacked, all := s.due(t, f)
			s.wantRun(t, "behind a fall", f, lacked, all-lacked)
			s.wantPages(t, "behind a fall", s.history(t))
			did, stood = did+lacked, stood+all-lacked
		}
	}
	if did < 5000 || stood < 5000 {
		t.Error("done, there already:", did, stood)
	}
}

// 20.1: in the midst of a walk, over a pool of its own on a disk that is the same but for what was not flushed; over the walk's own pool nothing is lacked.
func TestInTheMidst(t *testing.T) {
	met := map[string]int{}
	for seed := range int64(20) {
		w := newWalk(t, 500+seed, []int{100, 6, 4}[seed%3])
		for range 12 {
			w.goOn(25, 20)
			f := w.found(t)
			_, all := w.due(t, f)
			was := w.look()
			if seed%3 == 0 {
				w.wantRun(t, "its own pool", f, 0, all)
				if w.look() != was {
					t.Error("its own pool was changed")
				}
			}
			wantErr(t, "Flush", w.l.Flush(w.l.End()), api.OK)
			s := over(t, w.d.Clone(), 5)
			did, all := s.due(t, f)
			s.wantRun(t, "another pool", f, did, all-did)
			s.wantPages(t, "another pool", w.history(t))
			w.wantPages(t, "the walk's pages", w.history(t))
		}
		for what, n := range w.met {
			met[what] += n
		}
	}
	for _, what := range []string{"Put", "Extend", "Update", "Delete", "Insert", "Take out", "Clean", "To", "Commit", "Abort", "Take", "Write"} {
		if met[what] < 10 {
			t.Error(what, "was met", met[what], "times")
		}
	}
}
