package smo_test

import (
	"fmt"
	"maps"
	"math/rand"
	"slices"
	"strings"
	"testing"

	"girder/api"
	"girder/page"
	"girder/smo"
)

const workers = 3

// past is a change of an entry: behind which place of the log it was done, and whether it made it live.
type past struct {
	at   api.LSN
	en   api.Entry
	live bool
}

// job is a transaction of a worker.
type job struct {
	tx    int
	past  []past
	saves []api.LSN
	wrote map[api.Entry]int // what is its own until it ends
}

// walk is a long play of some transactions at one time over a tree, and what it must come to.
type walk struct {
	store
	*wood
	t      *testing.T
	r      *rand.Rand
	jobs   [workers]*job
	sure   map[api.Entry]bool // entries that committed
	points []point
	steps  int
	long   int // the greater, the longer are the keys
	spaces int // how often the disk was full
	levels int // the most
}

// point is which entries had committed at a place of the log.
type point struct {
	at   api.LSN
	sure []api.Entry
}

// newWalk is a walk over an empty tree.
func newWalk(t *testing.T, seed int64, room, frames, long int) *walk {
	t.Helper()
	w := &walk{store: laid(t, room, frames, 2), wood: newWood(3, api.Page(room)), t: t, r: rand.New(rand.NewSource(seed)), sure: map[api.Entry]bool{}, long: long}
	j := &job{tx: w.begin(t)}
	w.create(t, j.tx)
	w.jobs[0] = j
	w.commit(0)
	return w
}

// entry is the entry of a number: each has a place of its own.
func (w *walk) entry(i int) api.Entry {
	key := fmt.Sprintf("%03d", i*7%500/3)
	return entry(key+strings.Repeat("k", min(i*13%(w.long+1), api.MaxKey-3)), api.Page(i/60), i%60)
}

// some is any entry that nobody else has.
func (w *walk) some(j *job) (api.Entry, bool) {
	for range 20 {
		en := w.entry(w.r.Intn(240))
		if !w.others(j, en) {
			return en, true
		}
	}
	return api.Entry{}, false
}

// others tells whether another one has an entry for itself.
func (w *walk) others(j *job, en api.Entry) bool {
	return slices.ContainsFunc(w.jobs[:], func(x *job) bool { return x != nil && x != j && x.wrote[en] > 0 })
}

// free is a free that answers true of ghosts that nobody has, of some of them, or none.
func (w *walk) free() func(api.RID) bool {
	held := map[api.RID]bool{}
	for _, j := range w.jobs {
		if j != nil {
			for en := range j.wrote {
				held[en.RID] = true
			}
		}
	}
	some, of := w.r.Intn(6), 1+w.r.Intn(3)
	if some == 0 {
		return nil
	}
	return func(r api.RID) bool { return !held[r] && (some < 4 || (r.Slot+int(r.Page))%of == 0) }
}

// did notes what was done to an entry.
func (w *walk) did(j *job, en api.Entry, live bool) {
	j.past = append(j.past, past{w.save(w.t, j.tx), en, live})
	j.wrote[en]++
}

// put puts an entry in; a disk that is full lets it be taken back.
func (w *walk) put(j *job) {
	w.t.Helper()
	en, is := w.some(j)
	if !is {
		return
	}
	free := w.free()
	to := w.save(w.t, j.tx)
	want := w.wood.insert(en, free)
	wantErr(w.t, "Insert", smo.Insert(w.Manager, j.tx, w.root, en, free), want)
	switch want {
	case api.OK:
		w.did(j, en, true)
	case api.ErrSpace:
		w.spaces++
		w.store.back(w.t, j.tx, to)
	}
}

// takeOut takes an entry out, at most times one that is there.
func (w *walk) takeOut(j *job) {
	w.t.Helper()
	en, is := w.some(j)
	if l := slices.DeleteFunc(w.all(), func(x api.Item) bool { return !x.Live }); len(l) > 0 && w.r.Intn(6) > 0 {
		en = l[w.r.Intn(len(l))].Entry
		is = !w.others(j, en)
	}
	if !is {
		return
	}
	x, _ := w.find(en)
	want := api.ErrNone
	if x != nil && x.Live {
		want = api.OK
	}
	wantErr(w.t, "Delete", smo.Delete(w.Manager, j.tx, w.root, en), want)
	if want == api.OK {
		x.Live = false
		w.did(j, en, false)
	}
}

// tidy cleans the tree.
func (w *walk) tidy(j *job) {
	w.t.Helper()
	free := w.free()
	if free == nil {
		free = none
	}
	ghosts, pages := w.wood.clean(free)
	w.wantClean(w.t, j.tx, w.root, free, ghosts, pages)
}

// takeBack takes the model back to a place.
func (w *walk) takeBack(j *job, to api.LSN) {
	for len(j.past) > 0 && j.past[len(j.past)-1].at > to {
		x := j.past[len(j.past)-1]
		y, _ := w.find(x.en)
		y.Live = !x.live
		j.past = j.past[:len(j.past)-1]
	}
}

// commit ends a worker's transaction.
func (w *walk) commit(i int) {
	w.t.Helper()
	j := w.jobs[i]
	at := w.l.End()
	w.store.commit(w.t, j.tx)
	for en := range j.wrote {
		delete(w.sure, en)
		if x, _ := w.find(en); x != nil && x.Live {
			w.sure[en] = true
		}
	}
	w.points = append(w.points, point{at, slices.SortedFunc(maps.Keys(w.sure), before)})
	w.jobs[i] = nil
}

// abort takes a worker's transaction back.
func (w *walk) abort(i int) {
	w.t.Helper()
	j := w.jobs[i]
	w.store.abort(w.t, j.tx)
	w.takeBack(j, 0)
	w.jobs[i] = nil
}

// rollback goes back to a savepoint, and forgets those behind it.
func (w *walk) rollback(j *job) {
	w.t.Helper()
	if len(j.saves) == 0 {
		return
	}
	i := w.r.Intn(len(j.saves))
	w.store.back(w.t, j.tx, j.saves[i])
	w.takeBack(j, j.saves[i])
	j.saves = j.saves[:i+1]
}

// step is a step of a walk.
func (w *walk) step() {
	w.t.Helper()
	w.steps++
	i := w.r.Intn(workers)
	j := w.jobs[i]
	if j == nil {
		w.jobs[i] = &job{tx: w.begin(w.t), wrote: map[api.Entry]int{}}
		return
	}
	// By turns more is put in, and more is taken out.
	puts, cleans := 70, 1
	if w.steps/250%2 == 1 {
		puts, cleans = 12, 8
	}
	switch k := w.r.Intn(100); {
	case k < 6:
		w.commit(i)
	case k < 8:
		w.abort(i)
	case k < 11:
		j.saves = append(j.saves, w.save(w.t, j.tx))
	case k < 14:
		w.rollback(j)
	case k < 14+cleans:
		w.tidy(j)
	case k < 14+cleans+puts:
		w.put(j)
	default:
		w.takeOut(j)
	}
}

// check holds all against the model.
func (w *walk) check() {
	w.t.Helper()
	w.wantTree(w.t, w.root, w.all()...)
	w.wantPage(w.t, w.sheets()...)
	w.wantTaken(w.t, slices.Sorted(maps.Keys(w.taken))...)
	w.levels = max(w.levels, w.pages[w.root].level+1)
	if w.t.Failed() {
		w.t.Fatal("step", w.steps)
	}
}

// finish ends all that is under way.
func (w *walk) finish() {
	for i, j := range w.jobs {
		if j != nil && i%2 == 0 {
			w.commit(i)
		} else if j != nil {
			w.abort(i)
		}
	}
}

// 14.1 to 14.3, T3, T7: some transactions at one time over a tree, with pages that leave the pool between, and disks that are full at times: page by page what the chapter says.
func TestWalks(t *testing.T) {
	var total wood
	spaces, levels := 0, 0
	for seed := range int64(12) {
		long := []int{0, 20, 1000, 1000, api.MaxKey}[seed%5]
		w := newWalk(t, seed, []int{14, 30, 90, 60}[seed%4], 4+int(seed)%20, long)
		for range 1000 {
			w.step()
			w.check()
		}
		w.finish()
		w.check()
		if w.l.Kept() != 0 {
			t.Error("kept:", w.l.Kept())
		}
		if t.Failed() {
			t.Fatal("seed", seed)
		}
		total.gone += w.gone
		total.grew += w.grew
		total.cuts[0] += w.cuts[0]
		total.cuts[1] += w.cuts[1]
		spaces += w.spaces
		levels = max(levels, w.levels)
	}
	if total.gone < 50 || total.grew < 15 || total.cuts[0] < 100 || total.cuts[1] < 10 || spaces < 20 || levels < 4 {
		t.Error("the walks met too little:", total.gone, total.grew, total.cuts, spaces, levels)
	}
}

// R5, 14.3: the pages are the same, and the answers, for any number of frames, and whichever pages leave.
func TestFrames(t *testing.T) {
	var first *walk
	for i, frames := range []int{api.MaxFrames, 4, 5, 7, 16} {
		w := newWalk(t, 42, 60, frames, 1000)
		for range 800 {
			if i > 1 && w.steps%5 == 0 {
				w.p.Picks([]int{i, w.steps, -w.steps, 3})
			}
			w.step()
		}
		w.check()
		if first == nil {
			first = w
			continue
		}
		if w.l.End() != first.l.End() || !slices.Equal(w.All(), first.All()) {
			t.Errorf("%d frames: the log ends at %d, not %d", frames, w.l.End(), first.l.End())
		}
		for n := api.Page(1); n <= 60; n++ {
			if a, b := w.get(t, n), first.get(t, n); a.LSN != b.LSN || !page.Same(a, b) {
				t.Errorf("%d frames: page %d is another one", frames, n)
			}
		}
	}
}
