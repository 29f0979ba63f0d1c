package analyze_test

import (
	"fmt"
	"math/rand"
	"slices"
	"strings"
	"testing"

	"girder/api"
	"girder/catalog"
	"girder/ckpt"
	"girder/disk"
	"girder/heap"
	"girder/pool"
	"girder/smo"
	"girder/txn"
	"girder/undo"
)

// walk is a long play of some owners beside one another, each with a table and a tree of its own, until the power fails.
type walk struct {
	store
	*txn.Manager
	t      *testing.T
	r      *rand.Rand
	owners []*owner
	fell   bool
	met    map[string]int
}

// owner is one who changes its table and its tree in one transaction behind the other.
type owner struct {
	tx          int // 0: none
	aborting    bool
	table, root api.Page
	saves       []api.LSN
}

func newWalk(t *testing.T, seed int64, frames int) *walk {
	t.Helper()
	d, e := disk.New(100)
	wantErr(t, "disk.New", e, api.OK)
	s := again(t, d)
	p, e := pool.New(d, s.l, frames)
	wantErr(t, "pool.New", e, api.OK)
	p.Picks([]int{3, 1, 4, 1, 5, 9, 2, 6, 5, 3, 5, 8, 9, 7, 9, 3, 2, 3, 8, 4})
	w := &walk{store: s, Manager: txn.New(p), t: t, r: rand.New(rand.NewSource(seed)), met: map[string]int{}}
	wantErr(t, "Begin", catalog.Begin(w.Manager), api.OK)
	n, _ := w.Begin()
	for range 3 {
		o := &owner{}
		o.table, e = heap.Create(w.Manager, n)
		wantErr(t, "heap.Create", e, api.OK)
		o.root, e = smo.Create(w.Manager, n)
		wantErr(t, "smo.Create", e, api.OK)
		w.owners = append(w.owners, o)
	}
	wantErr(t, "Commit", w.Commit(n), api.OK)
	return w
}

// told takes what a call answered: whether it was done. The power may fail in each, and some find nothing to do.
func (w *walk) told(what string, e api.Errno, none ...api.Errno) bool {
	w.t.Helper()
	w.met[what]++
	w.fell = w.fell || e == api.ErrDead
	if e != api.OK && e != api.ErrDead && !slices.Contains(none, e) {
		w.t.Fatalf("%s: %d", what, e)
	}
	return e == api.OK
}

// step is a step of one owner.
func (w *walk) step() {
	o := w.owners[w.r.Intn(len(w.owners))]
	switch k := w.r.Intn(100); {
	case o.tx == 0 && k < 20:
		n, _ := w.Begin()
		_, _, e := smo.Clean(w.Manager, n, o.root, func(api.RID) bool { return true })
		if w.told("Clean", e) {
			w.told("Commit", w.Commit(n))
		}
	case o.tx == 0:
		o.tx, _ = w.Begin()
	case o.aborting:
		w.abort(o)
	case k < 30:
		w.rows(o)
	case k < 75:
		w.entries(o)
	case k < 82:
		at, e := w.Save(o.tx)
		wantErr(w.t, "Save", e, api.OK)
		o.saves = append(o.saves, at)
	case k < 88:
		w.back(o)
	case k < 94:
		if w.told("Commit", w.Commit(o.tx)) {
			o.ended()
		}
	case k < 97:
		w.abortPartly(o)
	default:
		w.abort(o)
	}
}

// rows puts a row in, changes one, or takes one away.
func (w *walk) rows(o *owner) {
	row := strings.Repeat(fmt.Sprint(w.r.Intn(10)), 1+w.r.Intn(30))
	r, there, e := heap.Place(w.Manager, o.table, func(r api.RID) bool { return w.r.Intn(9) > 0 })
	if e == api.OK && !there {
		w.told("Extend", heap.Extend(w.Manager, o.tx, o.table))
		return
	}
	switch {
	case e != api.OK:
		w.told("Place", e)
	case w.r.Intn(3) > 0 || r.Slot == 0:
		w.told("Put", heap.Put(w.Manager, o.tx, r, row))
	case w.r.Intn(2) == 0:
		r.Slot--
		w.told("Delete", heap.Delete(w.Manager, o.tx, r), api.ErrNone)
	default:
		r.Slot--
		w.told("Update", heap.Update(w.Manager, o.tx, r, row), api.ErrNone)
	}
}

// entries puts an entry into the tree, or takes one out.
func (w *walk) entries(o *owner) {
	n := w.r.Intn(60)
	en := api.Entry{Key: strings.Repeat(fmt.Sprint(n), 1+n%20), RID: api.RID{Page: 3, Slot: n % 7}}
	if w.r.Intn(3) > 0 {
		w.told("Insert", smo.Insert(w.Manager, o.tx, o.root, en, nil), api.ErrTwice)
		return
	}
	w.told("Take out", smo.Delete(w.Manager, o.tx, o.root, en), api.ErrNone)
}

// back goes back to a savepoint.
func (w *walk) back(o *owner) {
	if len(o.saves) == 0 {
		return
	}
	i := w.r.Intn(len(o.saves))
	if w.told("To", undo.To(w.Manager, o.tx, o.saves[i])) {
		o.saves = o.saves[:i+1]
	}
}

func (o *owner) ended() { o.tx, o.aborting, o.saves = 0, false, nil }

// abort goes back wholly, or on with that.
func (w *walk) abort(o *owner) {
	if w.told("Abort", undo.Abort(w.Manager, o.tx)) {
		o.ended()
	}
}

// abortPartly takes a record or some back, and is aborting then.
func (w *walk) abortPartly(o *owner) {
	many := w.r.Intn(4)
	e := w.Abort(o.tx, func(n int, r api.Rec) api.Errno {
		if many == 0 {
			return 777
		}
		many--
		return undo.One(w.Manager, n, r)
	})
	if e == 777 {
		o.aborting = true
		w.met["Abort partly"]++
		return
	}
	if w.told("Abort", e) {
		o.ended()
	}
}

// undone is the record at which undoing goes on, from a place on: what is never taken back is passed over.
func undone(t *testing.T, all map[api.LSN]api.Rec, at api.LSN) api.LSN {
	t.Helper()
	for at != 0 {
		r, here := all[at]
		switch {
		case !here:
			t.Fatalf("no record at %d", at)
		case r.Kind == api.RecUpdate && r.Undo != api.UndoNone:
			return at
		case r.Kind == api.RecCLR || r.Kind == api.RecTop:
			at = r.Next
		default:
			at = r.Prev
		}
	}
	return 0
}

// places is the records of a log by their places.
func (s store) places(t *testing.T) map[api.LSN]api.Rec {
	t.Helper()
	all := map[api.LSN]api.Rec{}
	for _, x := range s.records(t, 1) {
		all[x.at] = x.r
	}
	return all
}

// wantNow asks that the log says how the manager and the pool stand now: who is under way (who has no record, if the last checkpoint told of it), which pages are dirty.
func (w *walk) wantNow() {
	w.t.Helper()
	f, e := w.run(w.t)
	if want := w.modelled(w.t); !same(f, want) || e != api.OK {
		w.t.Fatalf("%+v, %d, not %+v", f, e, want)
	}
	all := w.places(w.t)
	found := map[int]api.TxState{}
	for _, x := range f.Txs {
		found[x.Tx] = x
	}
	for _, x := range w.All() {
		is, told := found[x.Tx]
		if !told && x.Last == 0 {
			continue
		}
		if !told || is.State != x.State || is.Last != x.Last || undone(w.t, all, is.Next) != undone(w.t, all, x.Next) {
			w.t.Errorf("%+v, not %+v", is, x)
		}
		delete(found, x.Tx)
	}
	if len(found) > 0 || f.Most > w.Coming()-1 {
		w.t.Errorf("%v are not under way; %d is above %d", found, f.Most, w.Coming()-1)
	}
	for _, x := range w.Pool().Dirty() {
		if i := slices.IndexFunc(f.Dirty, func(y api.Dirty) bool { return y.Page == x.Page }); i < 0 || f.Dirty[i].LSN > x.LSN {
			w.t.Errorf("page %d is dirty from %d: %v", x.Page, x.LSN, f.Dirty)
		}
	}
	if w.t.Failed() {
		w.t.FailNow()
	}
}

// wantLacks asks, behind a fall, that each change that a page on the disk lacks is told: which pages are dirty, from where on, and where redo begins.
func (s store) wantLacks(t *testing.T) int {
	t.Helper()
	p, e := pool.New(s.d, s.l, 8)
	wantErr(t, "pool.New", e, api.OK)
	f, e := s.run(t)
	if want := s.modelled(t); !same(f, want) || e != api.OK {
		t.Fatalf("%+v, %d, not %+v", f, e, want)
	}
	lacked := 0
	for _, x := range s.records(t, 1) {
		if x.r.Page == 0 {
			continue
		}
		sheet, e := p.Get(x.r.Page)
		wantErr(t, "pool.Get", e, api.OK)
		if sheet.LSN >= x.at {
			continue
		}
		lacked++
		i := slices.IndexFunc(f.Dirty, func(y api.Dirty) bool { return y.Page == x.r.Page })
		if i < 0 || f.Dirty[i].LSN > x.at || f.Redo > x.at {
			t.Fatalf("page %d lacks the change %d: %+v", x.r.Page, x.at, f)
		}
	}
	return lacked
}

// 19.1: behind each step of what transactions do, with checkpoints and without, in large pools and in small ones, what the log says is how all stands.
func TestWalk(t *testing.T) {
	met, fewer := map[string]int{}, 0
	for seed := range int64(12) {
		w := newWalk(t, seed, []int{100, 6, 4}[seed%3])
		every := 1 + int(seed)*7%31
		for i := range 250 {
			w.step()
			if i%every == 0 && seed > 2 {
				_, e := ckpt.Take(w.Manager)
				w.told("Take", e)
			}
			if i%19 == 0 {
				w.told("Write", w.Pool().Write(api.Page(w.r.Intn(20)+1)))
			}
			w.wantNow()
		}
		f, _ := w.run(t)
		fewer += w.l.Len() - f.Records
		for what, n := range w.met {
			met[what] += n
		}
	}
	for _, what := range []string{"Put", "Extend", "Update", "Delete", "Insert", "Take out", "Clean", "To", "Commit", "Abort", "Abort partly", "Take", "Write"} {
		if met[what] < 10 {
			t.Error(what, "was met", met[what], "times")
		}
	}
	if fewer < 1000 {
		t.Error("records that were not gone through:", fewer)
	}
}

// 19.1: behind a fall at any call of the disk, in the midst of steps and of checkpoints, whatever was kept of what was loose: no page lacks a change of which the log does not say so.
func TestFalls(t *testing.T) {
	lacked, masters := 0, 0
	for seed := range int64(300) {
		w := newWalk(t, 1000+seed, 4+int(seed)%5)
		fall := api.Fall{At: w.d.Calls() + w.r.Intn(150), Keep: w.r.Uint64(), Torn: w.r.Intn(3), Bytes: w.r.Intn(600), Log: w.r.Intn(900)}
		w.d.Plan([]api.Fall{fall})
		every := 1 + w.r.Intn(9)
		for i := 0; !w.fell; i++ {
			if w.step(); !w.fell && i%every == 0 {
				_, e := ckpt.Take(w.Manager)
				w.told("Take", e)
			}
		}
		w.d.Up()
		w.d.Plan(nil)
		s := again(t, w.d)
		lacked += s.wantLacks(t)
		if s.l.Master() > 0 {
			masters++
		}
	}
	if lacked < 500 || masters < 100 {
		t.Error("changes that were lacked, masters:", lacked, masters)
	}
}

// 19.1: a checkpoint in whose midst the power fails: behind it the log is gone through from that one, or from the one ahead of it.
func TestFallInCheckpoint(t *testing.T) {
	for call := range 5 {
		for _, keep := range []uint64{0, 1<<64 - 1} {
			w := newWalk(t, 7, 8)
			for range 60 {
				w.step()
			}
			first, e := ckpt.Take(w.Manager)
			wantErr(t, "Take", e, api.OK)
			for range 60 {
				w.step()
			}
			end := w.l.End()
			w.d.Plan([]api.Fall{{At: w.d.Calls() + call, Keep: keep, Log: api.MaxLog}})
			_, e = ckpt.Take(w.Manager)
			if fell := call < 4; fell != (e == api.ErrDead) {
				t.Fatalf("a fall at %d: %d", call, e)
			}
			w.d.Plan(nil)
			w.d.Up()
			s := again(t, w.d)
			at := s.l.Master()
			if at != first && (at != end || call < 3) {
				t.Errorf("a fall at %d: the master is %d, not %d or %d", call, at, first, end)
			}
			s.wantLacks(t)
			if f, _ := s.run(t); f.Records != len(s.records(t, at)) || at == end && f.Records != 2 {
				t.Errorf("a fall at %d: %+v", call, f)
			}
		}
	}
}
