package index_test

import (
	"fmt"
	"math/rand"
	"slices"
	"testing"

	"girder/api"
	"girder/disk"
	"girder/index"
	"girder/key"
	"girder/lock"
	"girder/page"
	"girder/pool"
	"girder/smo"
	"girder/space"
	"girder/tree"
	"girder/txn"
	"girder/wal"
)

// had asks for locks, one by one, without waiting: whether all are had.
func had(t *testing.T, l *lock.Table, tx int, needs []api.Need) bool {
	t.Helper()
	for _, n := range needs {
		is, e := l.Ask(tx, n.Name, n.Mode, n.Instant, false)
		if e != api.OK {
			t.Fatalf("Ask for %+v: %d", n, e)
		}
		if !is {
			return false
		}
	}
	return true
}

// 15.2: who has what Range asks for keeps others from putting in all that would be found, and from taking out what was.
func TestNobodyPutsInBetween(t *testing.T) {
	p := grown(t, someTree())
	all, _ := tree.All(p, treeRoot)
	keys := []string{"", "\x00", "a", "aa", "b", "bz", "c", "c\x00", "d", "l", "m", "n", "o", "p", "pp", "q", "r", "t", "u", "z", "zz"}
	for _, c := range ranges() {
		locks := lock.New()
		_, needs, _ := index.Range(p, table, someIndex(false), c.low, c.high)
		if !had(t, locks, 1, needs) {
			t.Fatal("the first one does not have what it asks for")
		}
		for _, k := range keys {
			for _, en := range []api.Entry{at(k), of(k, 2), of(k, 6), of(k, 7), of(k, 99), entry(k, 99, 9)} {
				l, _, e := index.Put(p, table, someIndex(false), en)
				if is := had(t, locks.Clone(), 2, l); e != api.OK || is && c.low <= k && k <= c.high {
					t.Errorf("from %q to %q was scanned: %+v can be put in, %d", c.low, c.high, en, e)
				}
			}
		}
		for _, x := range all {
			within := c.low <= x.Entry.Key && x.Entry.Key <= c.high
			if had(t, locks.Clone(), 2, index.Take(table, x.Entry)) && within {
				t.Errorf("from %q to %q was scanned: %+v can be taken out", c.low, c.high, x.Entry)
			}
		}
	}
}

// 15.2: others are kept away no further than up to the next entry on both sides.
func TestOthersGoOn(t *testing.T) {
	p := grown(t, someTree())
	locks := lock.New()
	_, needs, _ := index.Range(p, table, someIndex(false), "c", "l")
	if !had(t, locks, 1, needs) {
		t.Fatal("the first one does not have what it asks for")
	}
	for _, c := range []struct {
		en api.Entry
		is bool
	}{
		{of("a", 0), true}, {of("a", 9), true}, {of("b", 1), true}, {of("b", 3), false}, {of("bz", 0), false}, {of("c", 0), false}, {of("d", 0), false},
		{of("l", 99), false}, {of("m", 5), false}, {of("m", 6), true}, {of("n", 0), true}, {of("zz", 0), true},
	} {
		l, _, _ := index.Put(p, table, someIndex(false), c.en)
		if is := had(t, locks.Clone(), 2, l); is != c.is {
			t.Errorf("%+v is put in: %v, not %v", c.en, is, c.is)
		}
	}
	for slot, is := range map[int]bool{2: true, 3: false, 4: false, 5: false, 6: false, 7: true, 12: true} {
		if had(t, locks.Clone(), 2, index.Take(table, of("", slot))) != is {
			t.Errorf("the slot %d is taken out: not %v", slot, is)
		}
	}
	// Others may scan the same.
	if !had(t, locks.Clone(), 2, needs) {
		t.Error("two can't scan the same")
	}
	// Another table's rows, and another index's end, are others.
	if _, l, _ := index.Range(p, table, someIndex(false), "zz", "zz"); !had(t, locks, 1, l) {
		t.Fatal("the first one does not have the end")
	}
	if had(t, locks.Clone(), 2, []api.Need{atOnce(index.End(treeRoot))}) || !had(t, locks.Clone(), 2, []api.Need{atOnce(index.End(treeRoot + 1))}) {
		t.Error("the end is another index's")
	}
	if !had(t, locks.Clone(), 2, index.Take(table+1, of("c", 3))) {
		t.Error("the row is another table's")
	}
}

// store is an index, and all that it stands on.
type store struct {
	*txn.Manager
	p     *pool.Pool
	locks *lock.Table
	ix    api.Index
}

// begun is an index without entries.
func begun(t *testing.T, unique bool) store {
	t.Helper()
	d, _ := disk.New(room)
	l, _, _ := wal.Open(d)
	p, e := pool.New(d, l, frames)
	if e != api.OK {
		t.Fatal("pool.New:", e)
	}
	s := store{Manager: txn.New(p), p: p, locks: lock.New()}
	n := s.begin(t)
	ops, _ := space.Fresh(2)
	for _, op := range ops {
		if _, e := s.Log(n, api.Change{Page: api.MapPage, Op: op}); e != api.OK {
			t.Fatal("Log:", e)
		}
	}
	root, e := smo.Create(s.Manager, n)
	if e != api.OK || s.Commit(n) != api.OK {
		t.Fatal("Create:", e)
	}
	s.ix = api.Index{Root: root, Unique: unique}
	return s
}

func (s store) begin(t *testing.T) int {
	t.Helper()
	n, e := s.Begin()
	if e != api.OK {
		t.Fatal("Begin:", e)
	}
	return n
}

// undo takes a record back: an entry by its key, all else by the inverse.
func (s store) undo(n int, r api.Rec) api.Errno {
	if r.Undo == api.UndoKey {
		return smo.Undo(s.Manager, n, api.Page(r.Index), r.Entry, r.Live, r.Prev)
	}
	_, e := s.Compensate(n, r.Page, page.Inverse(r.Op), r.Prev)
	return e
}

// free tells whether nobody has or waits for the lock of a place.
func (s store) free(r api.RID) bool { return s.locks.Free(0, index.Row(table, r)) }

// isLive tells whether an entry is there.
func (s store) isLive(t *testing.T, en api.Entry) bool {
	t.Helper()
	x, is, e := tree.Find(s.p, s.ix.Root, en)
	if e != api.OK {
		t.Fatal("Find:", e)
	}
	return is && x.Live
}

// put puts an entry in, if the locks that it asks for are had: whether it was.
func (s store) put(t *testing.T, n int, en api.Entry) bool {
	t.Helper()
	if !had(t, s.locks, n, []api.Need{{Name: index.Row(table, en.RID), Mode: api.ModeX}}) || s.isLive(t, en) {
		return false
	}
	needs, twice, e := index.Put(s.p, table, s.ix, en)
	if e != api.OK {
		t.Fatal("Put:", e)
	}
	if !had(t, s.locks, n, needs) || twice {
		return false
	}
	if e := smo.Insert(s.Manager, n, s.ix.Root, en, s.free); e != api.OK {
		t.Fatalf("Insert of %+v: %d", en, e)
	}
	return true
}

// take takes an entry out, if the locks that it asks for are had: whether it was.
func (s store) take(t *testing.T, n int, en api.Entry) bool {
	t.Helper()
	if !had(t, s.locks, n, index.Take(table, en)) || !s.isLive(t, en) {
		return false
	}
	if e := smo.Delete(s.Manager, n, s.ix.Root, en); e != api.OK {
		t.Fatalf("Delete of %+v: %d", en, e)
	}
	return true
}

// end ends a transaction somehow: another one goes on instead of it.
func (s store) end(t *testing.T, n int, commit bool) int {
	t.Helper()
	e := api.OK
	if commit {
		e = s.Commit(n)
	} else {
		e = s.Abort(n, s.undo)
	}
	if e != api.OK {
		t.Fatal("at its end:", e)
	}
	s.locks.Release(n)
	return s.begin(t)
}

// walkEntry is an entry of walks: long keys fill leaves soon, so that they are cut in two.
func walkEntry(r *rand.Rand) api.Entry {
	k := fmt.Sprintf("%c%060d", 'a'+rune(r.Intn(6)), r.Intn(4))
	return entry(k, api.Page(60+r.Intn(2)), r.Intn(8))
}

// someStep is a step of one of those who write: an entry more or less, an end, or ghosts that go; whether it changed entries.
func (s store) someStep(t *testing.T, r *rand.Rand, who *int) bool {
	t.Helper()
	switch k := r.Intn(20); {
	case k < 11:
		return s.put(t, *who, walkEntry(r))
	case k < 16:
		return s.take(t, *who, walkEntry(r))
	case k < 19:
		*who = s.end(t, *who, r.Intn(2) == 0)
	default:
		if _, _, e := smo.Clean(s.Manager, *who, s.ix.Root, s.free); e != api.OK {
			t.Fatal("Clean:", e)
		}
	}
	return false
}

// wantUnique asks that no key of a unique index is there twice, live.
func (s store) wantUnique(t *testing.T) {
	t.Helper()
	l, e := tree.All(s.p, s.ix.Root)
	l = slices.DeleteFunc(l, func(x api.Item) bool { return !x.Live })
	for i := range l {
		if i > 0 && s.ix.Unique && l[i-1].Entry.Key == l[i].Entry.Key {
			t.Errorf("%q is there twice", l[i].Entry.Key)
		}
	}
	if e != api.OK || !slices.IsSortedFunc(l, func(a, b api.Item) int { return key.Entries(a.Entry, b.Entry) }) {
		t.Error("All:", e)
	}
}

// 15.2: whatever others put in, take out, take back and clean: who has what Range asks for finds the same again, and asks for the same.
func TestNoPhantoms(t *testing.T) {
	r := rand.New(rand.NewSource(152))
	scans, changes := 0, 0
	for walk := range 30 {
		s := begun(t, walk%2 == 0)
		writers := []int{s.begin(t), s.begin(t)}
		for range 20 {
			for range 10 {
				s.someStep(t, r, &writers[r.Intn(2)])
			}
			low, high := walkEntry(r).Key[:1+r.Intn(61)], walkEntry(r).Key
			reader := s.begin(t)
			found, needs, e := index.Range(s.p, table, s.ix, low, high)
			if e != api.OK {
				t.Fatal("Range:", e)
			}
			if had(t, s.locks, reader, needs) {
				scans++
				for range 15 {
					if s.someStep(t, r, &writers[r.Intn(2)]) {
						changes++
					}
					wantRange(t, s.p, s.ix, low, high, found, needs)
					s.wantUnique(t)
				}
			}
			if s.Commit(reader) != api.OK {
				t.Fatal("Commit")
			}
			s.locks.Release(reader)
		}
		if _, e := tree.Check(s.p, s.ix.Root); e != api.OK {
			t.Error("Check:", e)
		}
	}
	if scans < 100 || changes < 300 {
		t.Errorf("%d scans, %d changes beside them: too few", scans, changes)
	}
}

// 15.2: what is not kept from others would be seen: without the last lock of a range there are phantoms.
func TestTheLastNeedCounts(t *testing.T) {
	s := begun(t, false)
	n := s.begin(t)
	for i, k := range []string{"a", "c"} {
		if !s.put(t, n, of(k, i)) {
			t.Fatal("put")
		}
	}
	n = s.end(t, n, true)
	for _, c := range []struct{ low, high, put string }{{"a", "b", "b"}, {"a", "z", "d"}} {
		reader := s.begin(t)
		_, needs, _ := index.Range(s.p, table, s.ix, c.low, c.high)
		if !had(t, s.locks, reader, needs[:len(needs)-1]) {
			t.Fatal("the reader does not have what it asks for")
		}
		l, _, _ := index.Put(s.p, table, s.ix, of(c.put, 9))
		if !had(t, s.locks.Clone(), n, l) {
			t.Errorf("%q is kept away by another lock than the last one", c.put)
		}
		if !had(t, s.locks, reader, needs) || had(t, s.locks.Clone(), n, l) {
			t.Errorf("%q is not kept away by the last one", c.put)
		}
		s.locks.Release(reader)
	}
}
