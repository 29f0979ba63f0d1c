package txn_test

import (
	"slices"
	"strings"
	"testing"

	"girder/api"
	"girder/disk"
	"girder/page"
	"girder/pool"
	"girder/rec"
	"girder/txn"
	"girder/wal"
)

const (
	room   = 64 // pages of the disks of these tests
	frames = 32 // of their pools, where nothing else is said

	beginRoom = 128 // what is kept when a transaction begins
	undoRoom  = 160 // and for a change, beside its frame
	markLong  = 25  // the frame of a RecCommit, RecAbort, RecEnd
	topLong   = 33  // of a RecTop
)

func wantErr(t *testing.T, what string, e, want api.Errno) {
	t.Helper()
	if e != want {
		t.Errorf("%s: %d, not %d", what, e, want)
	}
}

// store is a manager, and all that it stands on.
type store struct {
	*txn.Manager
	d *disk.Disk
	l *wal.Log
	p *pool.Pool
}

// begun is a manager over a new disk, with a pool of so many frames.
func begun(t *testing.T, frames int) store {
	t.Helper()
	d, e := disk.New(room)
	wantErr(t, "disk.New", e, api.OK)
	return over(t, d, frames)
}

// over is a manager over a disk as it is.
func over(t *testing.T, d *disk.Disk, frames int) store {
	t.Helper()
	l, _, e := wal.Open(d)
	wantErr(t, "wal.Open", e, api.OK)
	p, e := pool.New(d, l, frames)
	wantErr(t, "pool.New", e, api.OK)
	m := txn.New(p)
	if m == nil {
		t.Fatal("New: nil")
	}
	return store{Manager: m, d: d, l: l, p: p}
}

// lay puts a page of these slots into the pool, of which the log says nothing.
func (s store) lay(t *testing.T, n api.Page, slots ...string) {
	t.Helper()
	wantErr(t, "pool.Put", s.p.Put(api.Sheet{Number: n, Kind: 9, Slots: slots}), api.OK)
}

// begin begins a transaction.
func (s store) begin(t *testing.T) int {
	t.Helper()
	n, e := s.Begin()
	if e != api.OK {
		t.Fatal("Begin:", e)
	}
	return n
}

// log logs a change.
func (s store) log(t *testing.T, n int, c api.Change) api.LSN {
	t.Helper()
	end := s.l.End()
	at, e := s.Log(n, c)
	if e != api.OK || at != end {
		t.Fatalf("Log(%d, %v): %d, %d; the end was %d", n, c, at, e, end)
	}
	return at
}

// set is the change of a slot that can be undone.
func set(p api.Page, at int, old, s string) api.Change {
	return api.Change{Page: p, Op: api.Op{Kind: api.OpSet, At: at, S: s, Old: old}, Undo: api.UndoPage}
}

// plain is a change that can't be undone.
func plain(c api.Change) api.Change {
	c.Undo = api.UndoNone
	return c
}

// keyed is a change that is undone by a key.
func keyed(c api.Change, key string) api.Change {
	c.Undo, c.Index, c.Live = api.UndoKey, 7, true
	c.Entry = api.Entry{Key: key, RID: api.RID{Page: 3, Slot: 4}}
	return c
}

// inverse takes records back by the inverses of their changes.
func (s store) inverse(n int, r api.Rec) api.Errno {
	_, e := s.Compensate(n, r.Page, page.Inverse(r.Op), r.Prev)
	return e
}

// nothing is an undo that leaves all as it is.
func nothing(int, api.Rec) api.Errno { return api.OK }

// aborting is a transaction that is taken back in part: it has a RecAbort, and a change that is left.
func (s store) aborting(t *testing.T, p api.Page) int {
	t.Helper()
	n := s.begin(t)
	s.log(t, n, set(p, 0, "a", "b"))
	wantErr(t, "Abort", s.Abort(n, func(int, api.Rec) api.Errno { return 777 }), 777)
	return n
}

// wantSlots asks for a page's slots.
func (s store) wantSlots(t *testing.T, n api.Page, want ...string) {
	t.Helper()
	x, e := s.p.Get(n)
	if e != api.OK || !slices.Equal(x.Slots, want) {
		t.Errorf("page %d: %q, %d, not %q", n, x.Slots, e, want)
	}
}

// wantState asks how a transaction stands.
func (s store) wantState(t *testing.T, n, state int, last, next api.LSN) {
	t.Helper()
	want := api.TxState{Tx: n, State: state, Last: last, Next: next}
	if x, here := s.State(n); !here || x != want {
		t.Errorf("State(%d): %v, %t, not %v", n, x, here, want)
	}
}

// long is how many bytes the frame of a record has.
func long(t *testing.T, r api.Rec) int {
	t.Helper()
	n, e := rec.Long(r)
	wantErr(t, "rec.Long", e, api.OK)
	return n
}

// placed is a record and its place.
type placed struct {
	at api.LSN
	r  api.Rec
}

// records is all records of a log, but those that only fill it.
func records(t *testing.T, l *wal.Log) []placed {
	t.Helper()
	var all []placed
	for at := api.LSN(1); at != l.End(); {
		s, next, here := l.Get(at)
		if !here {
			t.Fatalf("no record at %d", at)
		}
		if !strings.HasPrefix(s, filler) {
			r, e := rec.Decode(s)
			wantErr(t, "rec.Decode", e, api.OK)
			all = append(all, placed{at, r})
		}
		at = next
	}
	return all
}

// wantLog asks for the log's last records, and what they say.
func (s store) wantLog(t *testing.T, want ...api.Rec) []placed {
	t.Helper()
	all := records(t, s.l)
	if len(all) < len(want) {
		t.Fatalf("%d records, not %d", len(all), len(want))
	}
	all = all[len(all)-len(want):]
	for i, x := range all {
		if !rec.Same(x.r, want[i]) {
			t.Errorf("the record at %d: %v, not %v", x.at, x.r, want[i])
		}
	}
	return all
}

// put puts a record of somebody else at the log's end.
func (s store) put(t *testing.T, r api.Rec) api.LSN {
	t.Helper()
	text, e := rec.Encode(r)
	wantErr(t, "rec.Encode", e, api.OK)
	at, e := s.l.Append(text)
	wantErr(t, "Append", e, api.OK)
	return at
}

// seen is all that a manager and its log tell.
type seen struct {
	all                      []api.TxState
	done                     []int
	coming, kept, room, many int
	end, flushed             api.LSN
}

func (s store) look() seen {
	return seen{
		all: s.All(), done: s.Done(), coming: s.Coming(),
		kept: s.l.Kept(), room: s.l.Room(), many: s.l.Len(), end: s.l.End(), flushed: s.l.Flushed(),
	}
}

// wantSame asks that nothing has changed.
func (s store) wantSame(t *testing.T, what string, was seen) {
	t.Helper()
	is := s.look()
	if !slices.Equal(is.all, was.all) || !slices.Equal(is.done, was.done) {
		t.Errorf("%s: %v and %v were %v and %v", what, is.all, is.done, was.all, was.done)
	}
	is.all, is.done, was.all, was.done = nil, nil, nil, nil
	if is.coming != was.coming || is.kept != was.kept || is.room != was.room || is.many != was.many || is.end != was.end || is.flushed != was.flushed {
		t.Errorf("%s: %v was %v", what, is, was)
	}
}

// wantFails asks that a call answers an error and changes nothing.
func (s store) wantFails(t *testing.T, what string, want api.Errno, call func() (api.LSN, api.Errno)) {
	t.Helper()
	was := s.look()
	at, e := call()
	if at != 0 || e != want {
		t.Errorf("%s: %d, %d, not %d", what, at, e, want)
	}
	s.wantSame(t, what, was)
}

// 9.1: a manager is over a pool, and nobody is under way at first.
func TestNew(t *testing.T) {
	if txn.New(nil) != nil {
		t.Error("New(nil) is no nil")
	}
	s := begun(t, frames)
	if s.Pool() != s.p {
		t.Error("Pool is another one")
	}
	if len(s.All()) != 0 || len(s.Done()) != 0 || s.Coming() != 1 {
		t.Error(s.All(), s.Done(), s.Coming())
	}
	if x, here := s.State(1); here || x != (api.TxState{}) {
		t.Error("State(1):", x, here)
	}
	if s.l.Kept() != 0 || s.l.Len() != 0 {
		t.Error("New did something to the log")
	}
}

// 9.1: Begin puts no record, keeps room, and tells numbers that rise.
func TestBegin(t *testing.T) {
	s := begun(t, frames)
	for i := 1; i <= 5; i++ {
		if s.Coming() != i {
			t.Errorf("Coming: %d, not %d", s.Coming(), i)
		}
		if n := s.begin(t); n != i {
			t.Errorf("Begin: %d, not %d", n, i)
		}
		if s.l.Len() != 0 || s.l.Kept() != i*beginRoom {
			t.Errorf("Begin of %d: %d records, %d kept", i, s.l.Len(), s.l.Kept())
		}
		s.wantState(t, i, api.TxActive, 0, 0)
	}
	wantErr(t, "Commit", s.Commit(2), api.OK)
	wantErr(t, "Abort", s.Abort(5, nothing), api.OK)
	if n := s.begin(t); n != 6 || s.Coming() != 7 {
		t.Error("Begin tells a number twice, or leaves one out:", n, s.Coming())
	}
	want := []int{1, 3, 4, 6}
	for i, x := range s.All() {
		if x != (api.TxState{Tx: want[i], State: api.TxActive}) {
			t.Errorf("All: %v", s.All())
		}
	}
	if len(s.All()) != len(want) {
		t.Errorf("All: %v, not %v", s.All(), want)
	}
	for _, n := range []int{-1, 0, 2, 5, 7} {
		if x, here := s.State(n); here || x != (api.TxState{}) {
			t.Errorf("State(%d): %v, %t", n, x, here)
		}
	}
}

// 9.1: MaxTx are under way at one time, and not one more.
func TestBeginMany(t *testing.T) {
	s := begun(t, frames)
	for range api.MaxTx {
		s.begin(t)
	}
	if len(s.All()) != api.MaxTx || s.l.Kept() != api.MaxTx*beginRoom {
		t.Error(len(s.All()), s.l.Kept())
	}
	was := s.look()
	// With no room either: that there are many is told first.
	wantErr(t, "Keep", s.l.Keep(s.l.Room()-s.l.Kept()), api.OK)
	if n, e := s.Begin(); n != 0 || e != api.ErrMany {
		t.Error("Begin:", n, e)
	}
	s.l.Give(s.l.Kept() - was.kept)
	s.wantSame(t, "Begin", was)
	wantErr(t, "Abort", s.Abort(17, nothing), api.OK)
	if n := s.begin(t); n != api.MaxTx+1 {
		t.Error("Begin:", n)
	}
	if n, e := s.Begin(); n != 0 || e != api.ErrMany {
		t.Error("Begin:", n, e)
	}
}

// 9.1: All is by rising numbers, whoever changed last.
func TestAllRises(t *testing.T) {
	s := begun(t, frames)
	s.lay(t, 5, "a")
	for range 40 {
		s.begin(t)
	}
	at := s.log(t, 20, set(5, 0, "a", "b"))
	all := s.All()
	for i, x := range all {
		if x.Tx != i+1 {
			t.Fatalf("All: %v", all)
		}
	}
	if all[19].Last != at || all[19].Next != at {
		t.Error("All does not tell how they stand:", all[19])
	}
}

// 9.1: Done is those that committed, in commit order, and none else.
func TestDone(t *testing.T) {
	s := begun(t, frames)
	s.lay(t, 5, "a")
	for range 6 {
		s.begin(t)
	}
	wantErr(t, "Commit", s.Commit(4), api.OK)
	wantErr(t, "Abort", s.Abort(2, nothing), api.OK)
	wantErr(t, "Commit", s.Commit(1), api.OK)
	s.begin(t)
	wantErr(t, "Commit", s.Commit(7), api.OK)
	wantErr(t, "Commit", s.Commit(3), api.OK)
	want := []int{4, 1, 7, 3}
	if !slices.Equal(s.Done(), want) {
		t.Errorf("Done: %v, not %v", s.Done(), want)
	}
	var commits []int
	for _, x := range records(t, s.l) {
		if x.r.Kind == api.RecCommit {
			commits = append(commits, x.r.Tx)
		}
	}
	if !slices.Equal(commits, want) {
		t.Errorf("commits in the log: %v, not %v", commits, want)
	}
}

// 9.4: Load lays transactions as they are told, and the next number; it puts and keeps nothing.
func TestLoad(t *testing.T) {
	s := begun(t, frames)
	l := []api.TxState{
		{Tx: 9, State: api.TxAborting, Last: 70, Next: 30},
		{Tx: 2, State: api.TxCommitted, Last: 50, Next: 20},
		{Tx: 4, State: api.TxActive, Last: 60, Next: 60},
	}
	wantErr(t, "Load", s.Load(l, 12), api.OK)
	want := []api.TxState{l[1], l[2], l[0]}
	if !slices.Equal(s.All(), want) || s.Coming() != 12 || len(s.Done()) != 0 {
		t.Error(s.All(), s.Coming(), s.Done())
	}
	if s.l.Len() != 0 || s.l.Kept() != 0 {
		t.Error("Load did something to the log")
	}
	for _, x := range l {
		s.wantState(t, x.Tx, x.State, x.Last, x.Next)
		if at, e := s.Save(x.Tx); at != x.Next || e != api.OK {
			t.Error("Save:", at, e)
		}
	}
	if n := s.begin(t); n != 12 || s.Coming() != 13 {
		t.Error("Begin behind Load:", n, s.Coming())
	}
}

// 9.4: what Load does not take.
func TestLoadWrong(t *testing.T) {
	s := begun(t, frames)
	many := make([]api.TxState, api.MaxTx+1)
	for i := range many {
		many[i] = api.TxState{Tx: i + 1, State: api.TxActive}
	}
	load := func(l []api.TxState, next int) func() (api.LSN, api.Errno) {
		return func() (api.LSN, api.Errno) { return 0, s.Load(l, next) }
	}
	s.wantFails(t, "next 0", api.ErrArg, load(nil, 0))
	s.wantFails(t, "next -1", api.ErrArg, load(many[:3], -1))
	s.wantFails(t, "too many", api.ErrArg, load(many, 100))
	wantErr(t, "Load of as many as may be", s.Load(many[:api.MaxTx], 100), api.OK)
	if !slices.Equal(s.All(), many[:api.MaxTx]) {
		t.Error(s.All())
	}
	if n, e := s.Begin(); n != 0 || e != api.ErrMany {
		t.Error("Begin:", n, e)
	}
	s.wantFails(t, "some are under way", api.ErrArg, load(nil, 100))

	s = begun(t, frames)
	wantErr(t, "Load of none", s.Load(nil, 1), api.OK)
	n := s.begin(t)
	s.wantFails(t, "one is under way", api.ErrArg, load(nil, 100))
	wantErr(t, "Commit", s.Commit(n), api.OK)
	wantErr(t, "Load when all have ended", s.Load(many[5:6], 50), api.OK)
	if !slices.Equal(s.Done(), []int{n}) || s.Coming() != 50 {
		t.Error(s.Done(), s.Coming())
	}
}

// 9.1, 9.4: a number that is under way is not given to another one, whatever next Load was told.
func TestLoadAheadOfNext(t *testing.T) {
	s := begun(t, frames)
	l := []api.TxState{{Tx: 2, State: api.TxActive, Last: 9, Next: 9}, {Tx: 3, State: api.TxCommitted}}
	wantErr(t, "Load", s.Load(l, 1), api.OK)
	for _, want := range []int{1, 4, 5} {
		if s.Coming() != want {
			t.Errorf("Coming: %d, not %d", s.Coming(), want)
		}
		if n := s.begin(t); n != want {
			t.Errorf("Begin: %d, not %d", n, want)
		}
	}
	s.wantState(t, 2, api.TxActive, 9, 9)
	s.wantState(t, 3, api.TxCommitted, 0, 0)
	wantErr(t, "Commit", s.Commit(4), api.OK)
	if n := s.begin(t); n != 6 {
		t.Error("Begin:", n)
	}
}

// 9.5: on a nil Manager.
func TestNil(t *testing.T) {
	var m *txn.Manager
	if m.Pool() != nil || len(m.All()) != 0 || len(m.Done()) != 0 || m.Coming() != 0 {
		t.Error(m.Pool(), m.All(), m.Done(), m.Coming())
	}
	if x, here := m.State(1); here || x != (api.TxState{}) {
		t.Error("State:", x, here)
	}
	if n, e := m.Begin(); n != 0 || e != api.ErrArg {
		t.Error("Begin:", n, e)
	}
	if at, e := m.Log(1, set(5, 0, "a", "b")); at != 0 || e != api.ErrArg {
		t.Error("Log:", at, e)
	}
	if at, e := m.Compensate(1, 5, set(5, 0, "a", "b").Op, 0); at != 0 || e != api.ErrArg {
		t.Error("Compensate:", at, e)
	}
	if at, e := m.Save(1); at != 0 || e != api.ErrArg {
		t.Error("Save:", at, e)
	}
	if at, e := m.Top(1, 0); at != 0 || e != api.ErrArg {
		t.Error("Top:", at, e)
	}
	if r, at, e := m.Next(1); !rec.Same(r, api.Rec{}) || at != 0 || e != api.ErrArg {
		t.Error("Next:", r, at, e)
	}
	wantErr(t, "Rollback", m.Rollback(1, 0, nothing), api.ErrArg)
	wantErr(t, "Rollback", m.Rollback(1, 0, nil), api.ErrArg)
	wantErr(t, "Commit", m.Commit(1), api.ErrArg)
	wantErr(t, "Abort", m.Abort(1, nothing), api.ErrArg)
	wantErr(t, "Abort", m.Abort(1, nil), api.ErrArg)
	wantErr(t, "Finish", m.Finish(1), api.ErrArg)
	wantErr(t, "Load", m.Load(nil, 1), api.ErrArg)
}

// 9.2 to 9.4: each call tells first that there is no such transaction, whatever else is wrong.
func TestNoTransaction(t *testing.T) {
	s := begun(t, frames)
	s.lay(t, 5, "a")
	ended := s.begin(t)
	wantErr(t, "Commit", s.Commit(ended), api.OK)
	aborted := s.begin(t)
	wantErr(t, "Abort", s.Abort(aborted, nothing), api.OK)
	s.begin(t)
	for _, n := range []int{-1, 0, ended, aborted, s.Coming(), 1 << 40} {
		calls := map[string]func() (api.LSN, api.Errno){
			"Log":              func() (api.LSN, api.Errno) { return s.Log(n, set(5, 0, "a", "b")) },
			"Log of nothing":   func() (api.LSN, api.Errno) { return s.Log(n, api.Change{}) },
			"Compensate":       func() (api.LSN, api.Errno) { return s.Compensate(n, 5, set(5, 0, "a", "b").Op, 0) },
			"Compensate wrong": func() (api.LSN, api.Errno) { return s.Compensate(n, 0, api.Op{}, 0) },
			"Save":             func() (api.LSN, api.Errno) { return s.Save(n) },
			"Top":              func() (api.LSN, api.Errno) { return s.Top(n, 0) },
			"Top too far":      func() (api.LSN, api.Errno) { return s.Top(n, 999) },
			"Rollback":         func() (api.LSN, api.Errno) { return 0, s.Rollback(n, 0, nothing) },
			"Rollback nil":     func() (api.LSN, api.Errno) { return 0, s.Rollback(n, 0, nil) },
			"Commit":           func() (api.LSN, api.Errno) { return 0, s.Commit(n) },
			"Abort":            func() (api.LSN, api.Errno) { return 0, s.Abort(n, nothing) },
			"Abort nil":        func() (api.LSN, api.Errno) { return 0, s.Abort(n, nil) },
			"Finish":           func() (api.LSN, api.Errno) { return 0, s.Finish(n) },
			"Next": func() (api.LSN, api.Errno) {
				r, at, e := s.Next(n)
				if !rec.Same(r, api.Rec{}) {
					t.Error("Next:", r)
				}
				return at, e
			},
		}
		for what, call := range calls {
			s.wantFails(t, what, api.ErrTx, call)
		}
	}
	s.wantSlots(t, 5, "a")
}

// 9.1, 9.2, 9.4: a number that no record may have: its calls say so, and change nothing.
func TestGreatNumber(t *testing.T) {
	s := begun(t, frames)
	s.lay(t, 5, "a")
	wantErr(t, "Load", s.Load(nil, 1<<31-1), api.OK)
	last := s.begin(t)
	s.log(t, last, set(5, 0, "a", "b"))
	wantErr(t, "Commit", s.Commit(last), api.OK)
	n := s.begin(t)
	if n != 1<<31 {
		t.Fatal("Begin:", n)
	}
	s.wantFails(t, "Log", api.ErrRec, func() (api.LSN, api.Errno) { return s.Log(n, set(5, 0, "b", "c")) })
	s.wantFails(t, "Compensate", api.ErrRec, func() (api.LSN, api.Errno) { return s.Compensate(n, 5, set(5, 0, "b", "c").Op, 0) })
	s.wantFails(t, "Top", api.ErrRec, func() (api.LSN, api.Errno) { return s.Top(n, 0) })
	s.wantFails(t, "Commit", api.ErrRec, func() (api.LSN, api.Errno) { return 0, s.Commit(n) })
	s.wantFails(t, "Abort", api.ErrRec, func() (api.LSN, api.Errno) { return 0, s.Abort(n, nothing) })
	s.wantSlots(t, 5, "b")
}

// text is so many times a text.
func text(s string, n int) string { return strings.Repeat(s, n) }
