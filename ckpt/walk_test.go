package ckpt_test

import (
	"fmt"
	"maps"
	"math/rand"
	"slices"
	"strings"
	"testing"

	"girder/api"
	"girder/catalog"
	"girder/heap"
	"girder/smo"
	"girder/tree"
	"girder/undo"
)

// content is what an owner's table and tree have.
type content struct {
	rows    map[api.RID]string
	entries map[api.Entry]bool
}

func (c content) clone() content { return content{maps.Clone(c.rows), maps.Clone(c.entries)} }

// owner is one who has a table and a tree of its own, and changes them in one transaction behind the other.
type owner struct {
	tx        int // 0: none
	aborting  bool
	table     api.Page
	root      api.Page
	now, sure content // and what committed
	saves     []api.LSN
	kept      []content // at the savepoints
}

// walk is a long play of some owners beside one another. What it does hangs on no place in the log.
type walk struct {
	store
	t      *testing.T
	r      *rand.Rand
	owners []*owner
	fell   bool
	maybe  *owner // whose commit was under way when the power failed
	met    map[string]int
}

// newWalk is a walk that has not begun yet: what it will do hangs on the seed alone.
func newWalk(t *testing.T, seed int64, frames int) *walk {
	t.Helper()
	s := bare(t, 100, frames)
	wantErr(t, "Begin", catalog.Begin(s.Manager), api.OK)
	w := &walk{store: s, t: t, r: rand.New(rand.NewSource(seed)), met: map[string]int{}}
	n := s.begin(t)
	for range 3 {
		o := &owner{now: content{map[api.RID]string{}, map[api.Entry]bool{}}}
		var e, err api.Errno
		o.table, e = heap.Create(s.Manager, n)
		o.root, err = smo.Create(s.Manager, n)
		if e != api.OK || err != api.OK {
			t.Fatal("Create:", e, err)
		}
		o.sure = o.now.clone()
		w.owners = append(w.owners, o)
	}
	s.commit(t, n)
	return w
}

// told takes what a call answered: whether it was done. The power may fail in each.
func (w *walk) told(what string, e api.Errno) bool {
	w.t.Helper()
	w.met[what]++
	if e == api.ErrDead {
		w.fell = true
		return false
	}
	if e != api.OK {
		w.t.Fatalf("%s: %d", what, e)
	}
	return true
}

// step is a step of one owner.
func (w *walk) step() {
	o := w.owners[w.r.Intn(len(w.owners))]
	k := w.r.Intn(100)
	switch {
	case o.tx == 0 && k < 20:
		w.clean(o)
	case o.tx == 0:
		o.tx = w.begin(w.t)
	case o.aborting:
		w.abort(o)
	case k < 25:
		w.putRow(o)
	case k < 40:
		w.changeRow(o)
	case k < 65:
		w.putEntry(o)
	case k < 77:
		w.takeEntry(o)
	case k < 84:
		w.save(o)
	case k < 90:
		w.back(o)
	case k < 95:
		w.commits(o)
	case k < 98:
		w.abortPartly(o)
	default:
		w.abort(o)
	}
}

// text is a text that tells where it came from.
func (w *walk) text() string { return strings.Repeat(fmt.Sprint(w.r.Intn(10)), 1+w.r.Intn(30)) }

// putRow puts a row at the first place, where nobody else's may be.
func (w *walk) putRow(o *owner) {
	row := w.text()
	anywhere := func(api.RID) bool { return true }
	r, there, e := heap.Place(w.Manager, o.table, anywhere)
	if e == api.OK && !there {
		if e = heap.Extend(w.Manager, o.tx, o.table); e == api.OK {
			w.met["Extend done"]++
			r, _, e = heap.Place(w.Manager, o.table, anywhere)
		}
	}
	if e == api.OK {
		e = heap.Put(w.Manager, o.tx, r, row)
	}
	if w.told("Put", e) {
		o.now.rows[r] = row
	}
}

// changeRow lays another row in a row's place, or takes it away.
func (w *walk) changeRow(o *owner) {
	l := slices.SortedFunc(maps.Keys(o.now.rows), func(a, b api.RID) int {
		return int(a.Page)*100 + a.Slot - int(b.Page)*100 - b.Slot
	})
	if len(l) == 0 {
		return
	}
	r, row := l[w.r.Intn(len(l))], w.text()
	if w.r.Intn(2) == 0 {
		if w.told("Delete", heap.Delete(w.Manager, o.tx, r)) {
			delete(o.now.rows, r)
		}
		return
	}
	if w.told("Update", heap.Update(w.Manager, o.tx, r, row)) {
		o.now.rows[r] = row
	}
}

// entry is one of not too many.
func (w *walk) entry() api.Entry {
	n := w.r.Intn(60)
	return api.Entry{Key: strings.Repeat(fmt.Sprint(n), 1+n%20), RID: api.RID{Page: 3, Slot: n % 7}}
}

// putEntry puts an entry into the tree.
func (w *walk) putEntry(o *owner) {
	en := w.entry()
	e := smo.Insert(w.Manager, o.tx, o.root, en, nil)
	if o.now.entries[en] {
		if e != api.ErrTwice {
			w.told("Insert twice", e)
		}
		return
	}
	if w.told("Insert", e) {
		o.now.entries[en] = true
	}
}

// takeEntry takes an entry out of the tree.
func (w *walk) takeEntry(o *owner) {
	en := w.entry()
	e := smo.Delete(w.Manager, o.tx, o.root, en)
	if !o.now.entries[en] {
		if e != api.ErrNone {
			w.told("Delete of none", e)
		}
		return
	}
	if w.told("Delete of an entry", e) {
		delete(o.now.entries, en)
	}
}

// clean cleans the tree of one who is in need of no ghost.
func (w *walk) clean(o *owner) {
	n := w.begin(w.t)
	_, _, e := smo.Clean(w.Manager, n, o.root, func(api.RID) bool { return true })
	if w.told("Clean", e) {
		w.told("Commit of Clean", w.Commit(n))
	}
}

// save is a savepoint.
func (w *walk) save(o *owner) {
	at, e := w.Save(o.tx)
	if w.told("Save", e) {
		o.saves, o.kept = append(o.saves, at), append(o.kept, o.now.clone())
	}
}

// back goes back to a savepoint.
func (w *walk) back(o *owner) {
	if len(o.saves) == 0 {
		return
	}
	i := w.r.Intn(len(o.saves))
	if w.told("To", undo.To(w.Manager, o.tx, o.saves[i])) {
		o.now = o.kept[i].clone()
		o.saves, o.kept = o.saves[:i+1], o.kept[:i+1]
	}
}

// ended has no transaction any more.
func (o *owner) ended() { o.tx, o.aborting, o.saves, o.kept = 0, false, nil, nil }

// commits commits.
func (w *walk) commits(o *owner) {
	if !w.told("Commit", w.Commit(o.tx)) {
		w.maybe = o
		return
	}
	o.sure = o.now.clone()
	o.ended()
}

// abort goes back wholly, or on with that.
func (w *walk) abort(o *owner) {
	if w.told("Abort", undo.Abort(w.Manager, o.tx)) {
		o.now = o.sure.clone()
		o.ended()
	}
}

// abortPartly takes a record or some back, and is aborting then.
func (w *walk) abortPartly(o *owner) {
	many := w.r.Intn(4)
	e := w.Abort(o.tx, func(n int, r api.Rec) api.Errno {
		if many == 0 {
			return 777
		}
		many--
		return undo.One(w.Manager, n, r)
	})
	if e == 777 {
		o.aborting = true
		return
	}
	if w.told("Abort that was not cut short", e) {
		o.now = o.sure.clone()
		o.ended()
	}
}

// has tells whether a store has just so much of an owner.
func (o *owner) has(t *testing.T, s store, want content) bool {
	t.Helper()
	rows, e := heap.Scan(s.Manager, o.table)
	wantErr(t, "Scan", e, api.OK)
	is := content{map[api.RID]string{}, map[api.Entry]bool{}}
	for _, x := range rows {
		is.rows[x.RID] = x.Row
	}
	_, e = tree.Check(s.p, o.root)
	wantErr(t, "Check", e, api.OK)
	items, e := tree.All(s.p, o.root)
	wantErr(t, "All", e, api.OK)
	for _, x := range items {
		if x.Live {
			is.entries[x.Entry] = true
		}
	}
	return maps.Equal(is.rows, want.rows) && maps.Equal(is.entries, want.entries)
}

// wantNow asks for what each owner has done so far; of one that goes back it can't be told.
func (w *walk) wantNow() {
	w.t.Helper()
	for i, o := range w.owners {
		if !o.aborting && !o.has(w.t, w.store, o.now) {
			w.t.Fatalf("the owner %d has something else", i)
		}
	}
}

// wantSurvived asks that a store has what committed, and nothing else.
func (w *walk) wantSurvived(s store) {
	w.t.Helper()
	for i, o := range w.owners {
		if !o.has(w.t, s, o.sure) && !(w.maybe == o && o.has(w.t, s, o.now)) {
			w.t.Fatalf("behind the fall the owner %d has something else", i)
		}
	}
}
