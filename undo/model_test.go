package undo_test

import (
	"cmp"
	"fmt"
	"maps"
	"math/rand"
	"slices"
	"strings"
	"testing"

	"girder/api"
	"girder/heap"
	"girder/smo"
	"girder/tree"
)

const workers = 4

// thing is something that one alone may change until it ends: a row's place, an entry, or a page.
type thing struct {
	r  api.RID
	en api.Entry
	n  api.Page
}

// world is what there is: rows, live entries, pages that were taken by themselves.
type world map[thing]string

// past is what takes a step back in the model, and the place behind which it was done.
type past struct {
	at  api.LSN
	x   thing
	was string
	had bool
}

// job is a transaction of a worker.
type job struct {
	tx    int
	past  []past
	saves []api.LSN
	wrote map[thing]int
}

// walk is a long play of some transactions at one time over a table, a tree and the map, and what it must come to.
type walk struct {
	store
	t           *testing.T
	r           *rand.Rand
	root, first api.Page
	jobs        [workers]*job
	now, sure   world // as it stands; what committed
	points      []point
	steps       int
	backs       int // records that were taken back
	spaces      int // how often the disk was full
}

// point is what had committed at a place of the log.
type point struct {
	at   api.LSN
	sure world
}

func newWalk(t *testing.T, seed int64, room, frames int) *walk {
	t.Helper()
	s := laid(t, room, frames)
	w := &walk{store: s, t: t, r: rand.New(rand.NewSource(seed)), root: s.root(t), first: s.first(t), now: world{}, sure: world{}}
	w.points = []point{{s.l.End(), world{}}}
	return w
}

// others tells whether another one has something for itself.
func (w *walk) others(j *job, x thing) bool {
	return slices.ContainsFunc(w.jobs[:], func(y *job) bool { return y != nil && y != j && y.wrote[x] > 0 })
}

// did notes what a step did: what is there now, or that it is gone.
func (w *walk) did(j *job, x thing, is string, there bool) {
	was, had := w.now[x]
	j.past = append(j.past, past{w.save(w.t, j.tx), x, was, had})
	j.wrote[x]++
	if there {
		w.now[x] = is
	} else {
		delete(w.now, x)
	}
}

// some is any thing of a kind that is there and that nobody else has.
func (w *walk) some(j *job, is func(thing) bool) (thing, bool) {
	l := slices.SortedFunc(maps.Keys(w.now), func(a, b thing) int {
		return cmp.Or(before(api.Entry{RID: a.r}, api.Entry{RID: b.r}), before(a.en, b.en), cmp.Compare(a.n, b.n))
	})
	l = slices.DeleteFunc(l, func(x thing) bool { return !is(x) || w.others(j, x) })
	if len(l) == 0 {
		return thing{}, false
	}
	return l[w.r.Intn(len(l))], true
}

func isRow(x thing) bool   { return x.r != api.RID{} }
func isEntry(x thing) bool { return x.en != api.Entry{} }

// row is any row.
func (w *walk) row() string { return strings.Repeat(string(rune('a'+w.r.Intn(26))), w.r.Intn(61)) }

// fails takes back what a step did that told an error: there was no page any more.
func (w *walk) fails(j *job, e api.Errno, to api.LSN) bool {
	w.t.Helper()
	if e == api.OK {
		return false
	}
	wantErr(w.t, "a step", e, api.ErrSpace)
	w.spaces++
	w.wantBack(w.t, j.tx, to)
	return true
}

// putRow puts a row in, at the first place that nobody else has.
func (w *walk) putRow(j *job) {
	to := w.save(w.t, j.tx)
	free := func(r api.RID) bool { return !w.others(j, thing{r: r}) }
	r, is, e := heap.Place(w.Manager, w.first, free)
	wantErr(w.t, "Place", e, api.OK)
	if !is {
		if w.fails(j, heap.Extend(w.Manager, j.tx, w.first), to) {
			return
		}
		if r, is, e = heap.Place(w.Manager, w.first, free); !is || e != api.OK {
			w.t.Fatal("Place:", is, e)
		}
	}
	row := w.row()
	wantErr(w.t, "Put", heap.Put(w.Manager, j.tx, r, row), api.OK)
	w.did(j, thing{r: r}, row, true)
}

// changeRow changes a row, or takes it away.
func (w *walk) changeRow(j *job) {
	x, is := w.some(j, isRow)
	if !is {
		return
	}
	if w.r.Intn(2) == 0 {
		wantErr(w.t, "Delete", heap.Delete(w.Manager, j.tx, x.r), api.OK)
		w.did(j, x, "", false)
		return
	}
	row := w.row()
	wantErr(w.t, "Update", heap.Update(w.Manager, j.tx, x.r, row), api.OK)
	w.did(j, x, row, true)
}

// putEntry puts an entry in.
func (w *walk) putEntry(j *job) {
	i := w.r.Intn(150)
	x := thing{en: entry(fmt.Sprintf("%03d", i)+strings.Repeat("k", i*i%62), 1, i)}
	if w.others(j, x) {
		return
	}
	want := api.OK
	if _, is := w.now[x]; is {
		want = api.ErrTwice
	}
	free := w.free
	if w.r.Intn(2) == 0 {
		free = nil
	}
	to := w.save(w.t, j.tx)
	e := smo.Insert(w.Manager, j.tx, w.root, x.en, free)
	if e == api.ErrSpace && w.fails(j, e, to) {
		return
	}
	wantErr(w.t, "Insert", e, want)
	if want == api.OK {
		w.did(j, x, "", true)
	}
}

// free tells whether nobody has a ghost's place.
func (w *walk) free(r api.RID) bool {
	return !slices.ContainsFunc(w.jobs[:], func(j *job) bool {
		if j == nil {
			return false
		}
		for x := range j.wrote {
			if x.en.RID == r {
				return true
			}
		}
		return false
	})
}

// takeEntry takes an entry out.
func (w *walk) takeEntry(j *job) {
	if x, is := w.some(j, isEntry); is {
		wantErr(w.t, "Delete", smo.Delete(w.Manager, j.tx, w.root, x.en), api.OK)
		w.did(j, x, "", false)
	}
}

// takePage takes a page by itself.
func (w *walk) takePage(j *job) {
	to := w.save(w.t, j.tx)
	n, e := heap.Allocate(w.Manager, j.tx)
	if !w.fails(j, e, to) {
		w.did(j, thing{n: n}, "", true)
	}
}

// givePages makes pages free that were taken by themselves, in a transaction of its own, so that nobody takes them ahead of its end.
func (w *walk) givePages() {
	j := &job{tx: w.begin(w.t), wrote: map[thing]int{}}
	for range 2 {
		if x, is := w.some(j, func(x thing) bool { return x.n != 0 }); is {
			wantErr(w.t, "Release", heap.Release(w.Manager, j.tx, x.n), api.OK)
			w.did(j, x, "", false)
		}
	}
	if w.r.Intn(2) == 0 {
		w.commit(j)
	} else {
		w.abort(j)
	}
}

// tidy cleans the tree.
func (w *walk) tidy(j *job) {
	_, _, e := smo.Clean(w.Manager, j.tx, w.root, w.free)
	wantErr(w.t, "Clean", e, api.OK)
}

// takeBack takes the model back to a place.
func (w *walk) takeBack(j *job, to api.LSN) {
	for len(j.past) > 0 && j.past[len(j.past)-1].at > to {
		x := j.past[len(j.past)-1]
		j.past = j.past[:len(j.past)-1]
		// A page has no lock: another one may take it from now on.
		if x.x.n != 0 {
			delete(j.wrote, x.x)
		}
		if x.had {
			w.now[x.x] = x.was
		} else {
			delete(w.now, x.x)
		}
	}
}

// commit ends a transaction.
func (w *walk) commit(j *job) {
	at := w.l.End()
	w.store.commit(w.t, j.tx)
	w.sure = maps.Clone(w.sure)
	for x := range j.wrote {
		if s, is := w.now[x]; is {
			w.sure[x] = s
		} else {
			delete(w.sure, x)
		}
	}
	w.points = append(w.points, point{at, w.sure})
}

// abort takes a transaction back.
func (w *walk) abort(j *job) {
	w.backs += len(j.past)
	w.wantAborted(w.t, j.tx)
	w.takeBack(j, 0)
}

// back goes back to a savepoint, and forgets those behind it.
func (w *walk) back(j *job) {
	if len(j.saves) == 0 {
		return
	}
	i := w.r.Intn(len(j.saves))
	was := len(j.past)
	w.wantBack(w.t, j.tx, j.saves[i])
	w.takeBack(j, j.saves[i])
	w.backs += was - len(j.past)
	j.saves = j.saves[:i+1]
}

// cutShort goes back in part, and then wholly.
func (w *walk) cutShort(j *job) {
	due, from := w.due(w.t, j.tx, 0), w.l.End()
	if len(due) > 0 {
		wantErr(w.t, "Abort", w.Abort(j.tx, w.onlySome(w.r.Intn(len(due)))), 777)
	}
	w.store.abort(w.t, j.tx)
	w.wantDone(w.t, j.tx, from, due)
	w.backs += len(j.past)
	w.takeBack(j, 0)
}

// step is a step of a walk.
func (w *walk) step() {
	w.steps++
	i := w.r.Intn(workers)
	j := w.jobs[i]
	if j == nil {
		w.jobs[i] = &job{tx: w.begin(w.t), wrote: map[thing]int{}}
		return
	}
	switch k := w.r.Intn(100); {
	case k < 4:
		w.commit(j)
		w.jobs[i] = nil
	case k < 7:
		w.abort(j)
		w.jobs[i] = nil
	case k < 8:
		w.cutShort(j)
		w.jobs[i] = nil
	case k < 13:
		j.saves = append(j.saves, w.save(w.t, j.tx))
	case k < 18:
		w.back(j)
	case k < 20:
		w.tidy(j)
	case k < 22:
		w.givePages()
	case k < 28:
		w.takePage(j)
	case k < 45:
		w.putRow(j)
	case k < 58:
		w.changeRow(j)
	case k < 85:
		w.putEntry(j)
	default:
		w.takeEntry(j)
	}
}

// wantWorld asks that a store has just what there must be, and that no page is in use and free, nor taken and in no use.
func (w *walk) wantWorld(s store, want world) {
	w.t.Helper()
	is := world{}
	taken, e := tree.Check(s.p, w.root)
	wantErr(w.t, "Check", e, api.OK)
	for _, x := range s.itemsOf(w.t, w.root) {
		if x.Live {
			is[thing{en: x.Entry}] = ""
		}
	}
	pages, e := heap.Pages(s.Manager, w.first)
	wantErr(w.t, "Pages", e, api.OK)
	l, e := heap.Scan(s.Manager, w.first)
	wantErr(w.t, "Scan", e, api.OK)
	for _, x := range l {
		is[thing{r: x.RID}] = x.Row
	}
	taken = append(append(taken, pages...), 1, 2)
	for x := range want {
		if x.n != 0 {
			taken = append(taken, x.n)
			is[x] = ""
		}
	}
	slices.Sort(taken)
	s.wantTaken(w.t, taken...)
	if !maps.Equal(is, want) {
		w.t.Errorf("there is %v, not %v", is, want)
	}
	if w.t.Failed() {
		w.t.Fatal("step", w.steps)
	}
}

// 16.2, 16.3, T3, T7: some transactions at one time over rows, entries and the map, that go back to savepoints and wholly: what there is is what the model says, and each record is taken back once.
func TestWalks(t *testing.T) {
	backs, spaces := 0, 0
	for seed := range int64(10) {
		w := newWalk(t, seed, []int{24, 40, 120}[seed%3], 4+int(seed)*3)
		for range 700 {
			w.step()
			w.wantWorld(w.store, w.now)
		}
		for i, j := range w.jobs {
			if j != nil && i%2 == 0 {
				w.commit(j)
			} else if j != nil {
				w.abort(j)
			}
			w.jobs[i] = nil
		}
		w.wantWorld(w.store, w.now)
		w.wantWorld(w.store, w.sure)
		if w.l.Kept() != 0 {
			t.Error("kept:", w.l.Kept())
		}
		if t.Failed() {
			t.Fatal("seed", seed)
		}
		backs += w.backs
		spaces += w.spaces
	}
	if backs < 500 || spaces < 20 {
		t.Error("the walks met too little:", backs, spaces)
	}
}

// asAt is what had committed at a place of the log.
func (w *walk) asAt(cut api.LSN) world {
	var x world
	for _, y := range w.points {
		if y.at < cut {
			x = y.sure
		}
	}
	return x
}

// T1, T5: the power fails behind some records of a walk, with some under way, and some in the midst of going back: what committed stays, all else goes.
func TestWalksCutOff(t *testing.T) {
	for seed := range int64(4) {
		w := newWalk(t, 100+seed, 60, frames)
		from := w.l.End()
		for range 400 {
			w.step()
		}
		l := records(t, w.l, from)
		for range 40 {
			at := l[w.r.Intn(len(l))].at
			s, _ := risen(t, w.cutLog(t, at), 4+w.r.Intn(30))
			w.wantWorld(s, w.asAt(at))
			if t.Failed() {
				t.Fatal("seed", seed, "cut at", at)
			}
		}
	}
}

// T1, T5: the power fails in a pool that writes pages early, and again when it has stood up.
func TestWalksFall(t *testing.T) {
	for seed := range int64(20) {
		w := newWalk(t, 200+seed, 60, 4+int(seed)%4)
		for range 100 + w.r.Intn(200) {
			w.step()
		}
		cut := w.l.Flushed()
		w.d.Crash(api.Fall{Keep: w.r.Uint64()})
		for range 2 {
			w.d.Up()
			s, _ := risen(t, w.d, 4)
			w.wantWorld(s, w.asAt(cut))
			s.d.Crash(api.Fall{Keep: w.r.Uint64(), Log: w.r.Intn(300)})
		}
		if t.Failed() {
			t.Fatal("seed", seed)
		}
	}
}

// R5: the same, for any number of frames, and whichever pages leave.
func TestFrames(t *testing.T) {
	var first *walk
	for i, frames := range []int{api.MaxFrames, 4, 7, 16} {
		w := newWalk(t, 42, 60, frames)
		for range 500 {
			if i > 1 && w.steps%5 == 0 {
				w.p.Picks([]int{i, w.steps, -w.steps, 3})
			}
			w.step()
		}
		if first == nil {
			first = w
			continue
		}
		w.wantSame(t, fmt.Sprint(frames, " frames"), first.look(t))
	}
}
