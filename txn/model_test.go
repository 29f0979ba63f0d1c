package txn_test

import (
	"math/rand"
	"slices"
	"testing"

	"girder/api"
	"girder/page"
	"girder/rec"
)

// The model does changes to pages of its own, and notes of each that can be undone what stood there ahead. To take back is to lay that again, the last one first.

const (
	workers = 4

	sharedPage api.Page = 5 // each worker changes slots of its own there
	nestedPage api.Page = 6 // is changed by nested top actions
	plainPage  api.Page = 7 // is changed by what can't be undone
	ownPage    api.Page = 8 // the first of the pages that each worker has for itself

	wide = 8 // slots of the pages for all
)

// past is a change that can be undone: its record, and the page ahead of it.
type past struct {
	at  api.LSN
	c   api.Change
	was func()
}

// stay is a slot that stays so from a place of the log on, whatever becomes of who did it.
type stay struct {
	at   api.LSN
	page api.Page
	slot int
	s    string
}

// job is a transaction of a worker.
type job struct {
	tx    int
	past  []past
	saves []api.LSN
	kept  int
}

// walk is a long play of some transactions at one time, and what it must come to.
type walk struct {
	store
	t     *testing.T
	r     *rand.Rand
	pages map[api.Page]api.Sheet
	jobs  [workers]*job
	done  []int
	stays []stay
	steps int

	commits []commit
}

// commit is what a worker's own page was when it committed.
type commit struct {
	at     api.LSN
	worker int
	own    api.Sheet
	shared []string
}

// newWalk is a walk whose pages are laid by a transaction that committed.
func newWalk(t *testing.T, seed int64, frames int) *walk {
	t.Helper()
	w := &walk{store: begun(t, frames), t: t, r: rand.New(rand.NewSource(seed)), pages: map[api.Page]api.Sheet{}}
	n := w.begin(t)
	for p := sharedPage; p < ownPage+workers; p++ {
		w.first(n, p, api.Op{Kind: api.OpFormat, At: 9})
	}
	for p := sharedPage; p < ownPage; p++ {
		for i := range wide {
			w.first(n, p, api.Op{Kind: api.OpInsert, At: i, S: "-"})
		}
	}
	wantErr(t, "Commit", w.Commit(n), api.OK)
	w.done = []int{n}
	for i := range workers {
		w.committed(0, i)
	}
	return w
}

// first is a change that lays a page.
func (w *walk) first(n int, p api.Page, op api.Op) {
	w.t.Helper()
	w.log(w.t, n, api.Change{Page: p, Op: op})
	if w.pages[p].Number == 0 {
		w.pages[p] = page.Blank(p)
	}
	w.apply(p, op)
}

// apply does a change to a page of the model.
func (w *walk) apply(p api.Page, op api.Op) {
	w.t.Helper()
	x, e := page.Apply(w.pages[p], op, 0)
	wantErr(w.t, "Apply", e, api.OK)
	w.pages[p] = x
}

// committed notes what a worker has when it commits.
func (w *walk) committed(at api.LSN, i int) {
	var shared []string
	for slot := i; slot < wide; slot += workers {
		shared = append(shared, w.pages[sharedPage].Slots[slot])
	}
	w.commits = append(w.commits, commit{at: at, worker: i, own: w.pages[ownPage+api.Page(i)], shared: shared})
}

// do does a change, and notes how it is taken back.
func (w *walk) do(j *job, c api.Change, was func()) {
	w.t.Helper()
	at := w.log(w.t, j.tx, c)
	w.apply(c.Page, c.Op)
	if c.Undo == api.UndoNone {
		w.stays = append(w.stays, stay{at, c.Page, c.Op.At, c.Op.S})
		return
	}
	j.past = append(j.past, past{at, c, was})
	j.kept += long(w.t, recordOf(j.tx, 0, c)) + undoRoom
}

// slot is a change of a slot, and what lays it as it was.
func (w *walk) slot(p api.Page, at int) (api.Change, func()) {
	old := w.pages[p].Slots[at]
	c := set(p, at, old, text(string(rune('a'+w.r.Intn(26))), 1+w.r.Intn(9)))
	return c, func() {
		x := w.pages[p]
		x.Slots = slices.Clone(x.Slots)
		x.Slots[at] = old
		w.pages[p] = x
	}
}

// own is a change of a worker's own page, of any kind, and what lays it as it was.
func (w *walk) own(i int) (api.Change, func()) {
	p := ownPage + api.Page(i)
	x := w.pages[p]
	s := text(string(rune('A'+w.r.Intn(26))), w.r.Intn(40))
	ops := []api.Op{{Kind: api.OpHead, S: text("h", w.r.Intn(api.MaxHead)), Old: x.Head}}
	if len(x.Slots) > 0 {
		at := w.r.Intn(len(x.Slots))
		ops = append(ops, api.Op{Kind: api.OpRemove, At: at, Old: x.Slots[at]}, api.Op{Kind: api.OpSet, At: at, S: s, Old: x.Slots[at]})
		if n := len(x.Slots[0]); n > 0 {
			ops = append(ops, api.Op{Kind: api.OpPut, S: text("p", n), Old: x.Slots[0]})
		}
	} else {
		ops = append(ops, api.Op{Kind: api.OpTurn, S: page.Kind(w.r.Intn(256), "turned"), Old: page.Kind(x.Kind, x.Head)})
	}
	insert := api.Op{Kind: api.OpInsert, At: w.r.Intn(len(x.Slots) + 1), S: s}
	ops = append(ops, insert, insert)
	op := ops[w.r.Intn(len(ops))]
	if !page.Fits(x, op) {
		op = ops[0]
	}
	c := api.Change{Page: p, Op: op, Undo: api.UndoPage}
	if w.r.Intn(3) == 0 {
		c = keyed(c, s)
	}
	return c, func() { w.pages[p] = x }
}

// undo takes back what the model says comes next, and nothing else.
func (w *walk) undo(j *job) func(n int, r api.Rec) api.Errno {
	return func(n int, r api.Rec) api.Errno {
		w.t.Helper()
		if len(j.past) == 0 {
			w.t.Fatal("nothing is to be taken back:", r)
		}
		last := j.past[len(j.past)-1]
		if want := recordOf(j.tx, r.Prev, last.c); n != j.tx || !rec.Same(r, want) {
			w.t.Errorf("undo of %d: %v, not %v", n, r, want)
		}
		e := w.inverse(n, r)
		if e == api.OK {
			last.was()
			j.past = j.past[:len(j.past)-1]
			j.kept -= long(w.t, api.Rec{Kind: api.RecCLR, Tx: n, Page: r.Page, Op: page.Inverse(r.Op)})
		}
		return e
	}
}

// nested is a nested top action, that ends or is taken back.
func (w *walk) nested(j *job) {
	at, e := w.Save(j.tx)
	wantErr(w.t, "Save", e, api.OK)
	ahead := len(j.past)
	var in []stay
	for range 1 + w.r.Intn(3) {
		slot := w.r.Intn(wide)
		c, was := w.slot(nestedPage, slot)
		w.do(j, c, was)
		in = append(in, stay{0, nestedPage, slot, c.Op.S})
	}
	if w.r.Intn(4) == 0 {
		wantErr(w.t, "Rollback", w.Rollback(j.tx, at, w.undo(j)), api.OK)
		return
	}
	top, e := w.Top(j.tx, at)
	wantErr(w.t, "Top", e, api.OK)
	for _, x := range in {
		x.at = top
		w.stays = append(w.stays, x)
	}
	j.past = j.past[:ahead]
	j.kept -= topLong
}

// rollback goes back to a savepoint, and forgets those behind it.
func (w *walk) rollback(j *job) {
	if len(j.saves) == 0 {
		return
	}
	i := w.r.Intn(len(j.saves))
	wantErr(w.t, "Rollback", w.Rollback(j.tx, j.saves[i], w.undo(j)), api.OK)
	if len(j.past) > 0 && j.past[len(j.past)-1].at > j.saves[i] {
		w.t.Errorf("the change at %d was not taken back to %d", j.past[len(j.past)-1].at, j.saves[i])
	}
	j.saves = j.saves[:i+1]
}

// commit ends a worker's transaction.
func (w *walk) commit(i int) {
	j := w.jobs[i]
	at := w.l.End()
	wantErr(w.t, "Commit", w.Commit(j.tx), api.OK)
	w.committed(at, i)
	w.done = append(w.done, j.tx)
	w.jobs[i] = nil
}

// abort takes a worker's transaction back, perhaps with an undo that fails on the way.
func (w *walk) abort(i int) {
	j := w.jobs[i]
	if w.r.Intn(2) == 0 && len(j.past) > 0 {
		left := w.r.Intn(len(j.past))
		undo := w.undo(j)
		fails := func(n int, r api.Rec) api.Errno {
			if left == 0 {
				return 777
			}
			left--
			return undo(n, r)
		}
		wantErr(w.t, "Abort", w.Abort(j.tx, fails), 777)
		j.kept -= markLong
		w.check()
	}
	wantErr(w.t, "Abort", w.Abort(j.tx, w.undo(j)), api.OK)
	if len(j.past) != 0 {
		w.t.Errorf("%d changes were not taken back", len(j.past))
	}
	w.jobs[i] = nil
}

// step is a step of a walk.
func (w *walk) step() {
	w.t.Helper()
	w.steps++
	i := w.r.Intn(workers)
	j := w.jobs[i]
	if j == nil {
		w.jobs[i] = &job{tx: w.begin(w.t), kept: beginRoom}
		return
	}
	switch w.r.Intn(14) {
	case 0:
		w.commit(i)
	case 1:
		w.abort(i)
	case 2, 3:
		at, e := w.Save(j.tx)
		wantErr(w.t, "Save", e, api.OK)
		j.saves = append(j.saves, at)
	case 4, 5:
		w.rollback(j)
	case 6:
		w.nested(j)
	case 7:
		c, was := w.slot(plainPage, w.r.Intn(wide))
		w.do(j, plain(c), was)
	case 8, 9, 10:
		c, was := w.slot(sharedPage, i+workers*w.r.Intn(wide/workers))
		w.do(j, c, was)
	default:
		c, was := w.own(i)
		w.do(j, c, was)
	}
}

// check holds all against the model.
func (w *walk) check() {
	w.t.Helper()
	for p, want := range w.pages {
		if x, e := w.p.Get(p); e != api.OK || !page.Same(x, want) {
			w.t.Fatalf("step %d, page %d: %v, %d, not %v", w.steps, p, x, e, want)
		}
	}
	kept := 0
	var under []int
	for _, j := range w.jobs {
		if j != nil {
			kept += j.kept
			under = append(under, j.tx)
		}
	}
	slices.Sort(under)
	all := w.All()
	if w.l.Kept() != kept || len(all) != len(under) || !slices.Equal(w.Done(), w.done) {
		w.t.Fatalf("step %d: %d kept, not %d; under way: %v, not %v; done: %v, not %v", w.steps, w.l.Kept(), kept, all, under, w.Done(), w.done)
	}
	for i, x := range all {
		if x.Tx != under[i] {
			w.t.Fatalf("step %d: under way: %v, not %v", w.steps, all, under)
		}
	}
}

// checkNext holds what is undone next against the model.
func (w *walk) checkNext() {
	w.t.Helper()
	for _, j := range w.jobs {
		if j == nil {
			continue
		}
		var want api.LSN
		if len(j.past) > 0 {
			want = j.past[len(j.past)-1].at
		}
		if _, at, e := w.Next(j.tx); at != want || e != api.OK {
			w.t.Fatalf("step %d: Next of %d: %d, %d, not %d", w.steps, j.tx, at, e, want)
		}
	}
}

// finish ends all that is under way.
func (w *walk) finish() {
	for i, j := range w.jobs {
		if j != nil && i%2 == 0 {
			w.commit(i)
		} else if j != nil {
			w.abort(i)
		}
	}
}

// 9.1 to 9.5: some transactions at one time, with pages that leave the pool between.
func TestWalks(t *testing.T) {
	for seed := range int64(60) {
		frames := 4 + int(seed)%12
		w := newWalk(t, seed, frames)
		for range 400 {
			w.step()
			if w.r.Intn(10) == 0 {
				wantErr(t, "Write", w.p.Write(sharedPage+api.Page(w.r.Intn(8))), api.OK)
			}
			w.check()
			if w.r.Intn(5) == 0 {
				w.checkNext()
			}
		}
		w.finish()
		w.check()
		checkChains(t, w.l)
		w.wantKept(t, "the end", 0)
		if t.Failed() {
			t.Fatal("seed", seed)
		}
	}
}

// wantAsAt holds pages against what the walk's transactions left that committed up to a place of the log.
func (w *walk) wantAsAt(s store, cut api.LSN) {
	w.t.Helper()
	shared := make([]string, wide)
	for _, c := range w.commits {
		if c.at >= cut {
			continue
		}
		for i, x := range c.shared {
			shared[c.worker+i*workers] = x
		}
	}
	s.wantSlots(w.t, sharedPage, shared...)
	for i := range workers {
		own := w.commits[i].own
		for _, c := range w.commits {
			if c.worker == i && c.at < cut {
				own = c.own
			}
		}
		if x, e := s.p.Get(own.Number); e != api.OK || !page.Same(x, own) {
			w.t.Errorf("cut at %d, page %d: %v, %d, not %v", cut, own.Number, x, e, own)
		}
	}
	rest := map[api.Page][]string{nestedPage: slices.Repeat([]string{"-"}, wide), plainPage: slices.Repeat([]string{"-"}, wide)}
	for _, x := range w.stays {
		if x.at < cut {
			rest[x.page][x.slot] = x.s
		}
	}
	for p, slots := range rest {
		s.wantSlots(w.t, p, slots...)
	}
}

// 9.4, 9.5, T5: the power fails behind each record of a walk, and again in the midst of taking back: what committed stays, all else goes, and nothing is taken back twice.
func TestWalksCutOff(t *testing.T) {
	for seed := range int64(4) {
		w := newWalk(t, 1000+seed, frames)
		from := w.l.Len() - 1
		for range 150 {
			w.step()
		}
		wantErr(t, "Flush", w.l.Flush(w.l.End()), api.OK)
		for _, x := range records(t, w.l)[from:] {
			again := w.cut(w.store, x.at)
			again.settle(t)
			w.wantAsAt(again, x.at)
			checkChains(t, again.l)
			wantErr(t, "Flush", again.l.Flush(again.l.End()), api.OK)
			// And somewhere in what the restart put.
			at := x.at
			for range w.r.Intn(again.l.Len() + 1) {
				if _, next, here := again.l.Get(at); here {
					at = next
				}
			}
			third := w.cut(again, at)
			third.settle(t)
			w.wantAsAt(third, x.at)
			checkChains(t, third.l)
			if third.l.End() != again.l.End() {
				t.Errorf("cut at %d and %d: the work is %d bytes, not %d", x.at, at, third.l.End(), again.l.End())
			}
			if t.Failed() {
				t.Fatal("seed", seed, "cut at", x.at)
			}
		}
	}
}

// cut is what stands up from a store whose log is cut at a record, and whose pages were never written.
func (w *walk) cut(s store, at api.LSN) store {
	w.t.Helper()
	d := s.d.Clone()
	wantErr(w.t, "CutLog", d.CutLog(int(at-1)), api.OK)
	return risen(w.t, d)
}
