package restart_test

import (
	"fmt"
	"maps"
	"math/rand"
	"slices"
	"strings"
	"testing"

	"girder/api"
	"girder/ckpt"
	"girder/heap"
	"girder/smo"
	"girder/tree"
	"girder/undo"
)

// content is what an owner's table and tree have.
type content struct {
	rows    map[api.RID]string
	entries map[api.Entry]bool
}

func (c content) clone() content { return content{maps.Clone(c.rows), maps.Clone(c.entries)} }

// owner is one who has a table and a tree of its own, and changes them in one transaction behind the other.
type owner struct {
	tx        int // 0: none
	table     api.Page
	root      api.Page
	now, sure content // and what committed
	saves     []api.LSN
	kept      []content // at the savepoints
}

// walk is a long play of some owners beside one another, until the power fails.
type walk struct {
	store
	t      *testing.T
	r      *rand.Rand
	owners []*owner
	fell   bool
	maybe  *owner // whose commit was under way when the power failed
	met    map[string]int
}

// newWalk is a walk that has not begun yet.
func newWalk(t *testing.T, seed int64, frames int) *walk {
	t.Helper()
	s, _ := opened(t, empty(t, room), frames, 3, 1, 4, 1, 5, 9, 2, 6, 5, 3, 5, 8, 9, 7, 9, 3, 2, 3, 8, 4)
	w := &walk{store: s, t: t, r: rand.New(rand.NewSource(seed)), met: map[string]int{}}
	n := s.begin(t)
	for range 3 {
		o := &owner{now: content{map[api.RID]string{}, map[api.Entry]bool{}}}
		var e, err api.Errno
		o.table, e = heap.Create(s.Manager, n)
		o.root, err = smo.Create(s.Manager, n)
		if e != api.OK || err != api.OK {
			t.Fatal("Create:", e, err)
		}
		o.sure = o.now.clone()
		w.owners = append(w.owners, o)
	}
	wantErr(t, "Commit", s.Commit(n), api.OK)
	return w
}

// told takes what a call answered: whether it was done. The power may fail in each.
func (w *walk) told(what string, e api.Errno) bool {
	w.t.Helper()
	w.met[what]++
	if e == api.ErrDead {
		w.fell = true
		return false
	}
	wantErr(w.t, what, e, api.OK)
	return true
}

// step is a step of one owner.
func (w *walk) step() {
	o := w.owners[w.r.Intn(len(w.owners))]
	switch k := w.r.Intn(100); {
	case o.tx == 0 && k < 20:
		w.clean(o)
	case o.tx == 0:
		o.tx = w.begin(w.t)
	case k < 25:
		w.putRow(o)
	case k < 40:
		w.changeRow(o)
	case k < 65:
		w.putEntry(o)
	case k < 79:
		w.takeEntry(o)
	case k < 85:
		w.save(o)
	case k < 90:
		w.back(o)
	case k < 96:
		w.commits(o)
	default:
		w.abort(o)
	}
}

// text is a text that tells where it came from.
func (w *walk) text() string { return strings.Repeat(fmt.Sprint(w.r.Intn(10)), 1+w.r.Intn(30)) }

// putRow puts a row at the first place, where nobody else's may be.
func (w *walk) putRow(o *owner) {
	row := w.text()
	anywhere := func(api.RID) bool { return true }
	r, there, e := heap.Place(w.Manager, o.table, anywhere)
	if e == api.OK && !there {
		if e = heap.Extend(w.Manager, o.tx, o.table); e == api.OK {
			r, _, e = heap.Place(w.Manager, o.table, anywhere)
		}
	}
	if e == api.OK {
		e = heap.Put(w.Manager, o.tx, r, row)
	}
	if w.told("Put", e) {
		o.now.rows[r] = row
	}
}

// changeRow lays another row in a row's place, or takes it away.
func (w *walk) changeRow(o *owner) {
	l := slices.SortedFunc(maps.Keys(o.now.rows), func(a, b api.RID) int {
		return int(a.Page)*100 + a.Slot - int(b.Page)*100 - b.Slot
	})
	if len(l) == 0 {
		return
	}
	r, row := l[w.r.Intn(len(l))], w.text()
	if w.r.Intn(2) == 0 {
		if w.told("Delete", heap.Delete(w.Manager, o.tx, r)) {
			delete(o.now.rows, r)
		}
		return
	}
	if w.told("Update", heap.Update(w.Manager, o.tx, r, row)) {
		o.now.rows[r] = row
	}
}

// entry is one of not too many.
func (w *walk) entry() api.Entry {
	n := w.r.Intn(60)
	return api.Entry{Key: strings.Repeat(fmt.Sprint(n), 1+n%20), RID: api.RID{Page: 3, Slot: n % 7}}
}

// putEntry puts an entry into the tree.
func (w *walk) putEntry(o *owner) {
	en := w.entry()
	if o.now.entries[en] {
		return
	}
	if w.told("Insert", smo.Insert(w.Manager, o.tx, o.root, en, nil)) {
		o.now.entries[en] = true
	}
}

// takeEntry takes an entry out of the tree.
func (w *walk) takeEntry(o *owner) {
	en := w.entry()
	if !o.now.entries[en] {
		return
	}
	if w.told("Take out", smo.Delete(w.Manager, o.tx, o.root, en)) {
		delete(o.now.entries, en)
	}
}

// clean cleans the tree of one who is in need of no ghost.
func (w *walk) clean(o *owner) {
	n := w.begin(w.t)
	_, _, e := smo.Clean(w.Manager, n, o.root, func(api.RID) bool { return true })
	if w.told("Clean", e) {
		w.told("Commit of Clean", w.Commit(n))
	}
}

// save is a savepoint.
func (w *walk) save(o *owner) {
	at, e := w.Save(o.tx)
	if w.told("Save", e) {
		o.saves, o.kept = append(o.saves, at), append(o.kept, o.now.clone())
	}
}

// back goes back to a savepoint.
func (w *walk) back(o *owner) {
	if len(o.saves) == 0 {
		return
	}
	i := w.r.Intn(len(o.saves))
	if w.told("To", undo.To(w.Manager, o.tx, o.saves[i])) {
		o.now = o.kept[i].clone()
		o.saves, o.kept = o.saves[:i+1], o.kept[:i+1]
	}
}

// ended has no transaction any more.
func (o *owner) ended() { o.tx, o.saves, o.kept = 0, nil, nil }

// commits commits.
func (w *walk) commits(o *owner) {
	if !w.told("Commit", w.Commit(o.tx)) {
		w.maybe = o
		return
	}
	o.sure = o.now.clone()
	o.ended()
}

// abort goes back wholly.
func (w *walk) abort(o *owner) {
	if w.told("Abort", undo.Abort(w.Manager, o.tx)) {
		o.now = o.sure.clone()
		o.ended()
	}
}

// goOn makes steps until the power fails, or up to many, with a checkpoint each so many.
func (w *walk) goOn(many, every int) {
	for i := 0; i < many && !w.fell; i++ {
		w.step()
		if !w.fell && i%every == every-1 {
			_, e := ckpt.Take(w.Manager)
			w.told("Take", e)
		}
		if !w.fell && i%19 == 0 {
			w.told("Write", w.p.Write(api.Page(w.r.Intn(20)+1)))
		}
	}
}

// fallen is a walk into which the power fell; it is back.
func fallen(t *testing.T, seed int64) *walk {
	t.Helper()
	w := newWalk(t, seed, 4+int(seed)%9)
	fall := api.Fall{At: w.d.Calls() + w.r.Intn(200), Keep: w.r.Uint64(), Torn: w.r.Intn(3), Bytes: w.r.Intn(600), Log: w.r.Intn(900)}
	w.d.Plan([]api.Fall{fall})
	w.goOn(1<<20, 5+w.r.Intn(60))
	w.d.Up()
	w.d.Plan(nil)
	w.settle()
	return w
}

// settle finds out whether a commit that was under way when the power failed is in the log.
func (w *walk) settle() {
	w.t.Helper()
	if w.maybe == nil {
		return
	}
	s := over(w.t, w.d.Clone(), 4)
	for _, x := range records(w.t, s.l, 1) {
		if x.r.Kind == api.RecCommit && x.r.Tx == w.maybe.tx {
			w.maybe.sure = w.maybe.now.clone()
		}
	}
}

// has tells whether a store has just so much of an owner.
func (o *owner) has(t *testing.T, s store) bool {
	t.Helper()
	rows, e := heap.Scan(s.Manager, o.table)
	wantErr(t, "Scan", e, api.OK)
	is := content{map[api.RID]string{}, map[api.Entry]bool{}}
	for _, x := range rows {
		is.rows[x.RID] = x.Row
	}
	_, e = tree.Check(s.p, o.root)
	wantErr(t, "Check", e, api.OK)
	items, e := tree.All(s.p, o.root)
	wantErr(t, "All", e, api.OK)
	for _, x := range items {
		if x.Live {
			is.entries[x.Entry] = true
		}
	}
	return maps.Equal(is.rows, o.sure.rows) && maps.Equal(is.entries, o.sure.entries)
}

// wantSurvived asks that a store has what committed, and nothing else, and that each page that is in use, and no other one, is taken.
func (w *walk) wantSurvived(what string, s store) {
	w.t.Helper()
	used := []api.Page{api.MapPage, api.RootPage}
	for i, o := range w.owners {
		if !o.has(w.t, s) {
			w.t.Fatalf("%s: the owner %d has something else", what, i)
		}
		pages, e := heap.Pages(s.Manager, o.table)
		wantErr(w.t, "Pages", e, api.OK)
		used = append(used, pages...)
		pages, e = tree.Check(s.p, o.root)
		wantErr(w.t, "Check", e, api.OK)
		used = append(used, pages...)
	}
	slices.Sort(used)
	if is := taken(w.t, s); !slices.Equal(is, used) {
		w.t.Fatalf("%s: taken are %v, in use %v", what, is, used)
	}
}
