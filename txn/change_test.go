package txn_test

import (
	"testing"

	"girder/api"
	"girder/page"
	"girder/rec"
)

// recordOf is the record that a change must have.
func recordOf(n int, prev api.LSN, c api.Change) api.Rec {
	return api.Rec{
		Kind: api.RecUpdate, Tx: n, Prev: prev, Page: c.Page, Op: c.Op,
		Undo: c.Undo, Index: c.Index, Entry: c.Entry, Live: c.Live,
	}
}

// 9.2: a change is done, its record says all of it, and the page has the record's LSN.
func TestLog(t *testing.T) {
	for _, c := range []api.Change{
		set(5, 1, "b", "x"),
		plain(set(5, 1, "b", "x")),
		keyed(set(5, 1, "b", "x"), "k"),
		{Page: 5, Op: api.Op{Kind: api.OpInsert, At: 3, S: "d"}, Undo: api.UndoPage},
		{Page: 5, Op: api.Op{Kind: api.OpRemove, At: 0, Old: "a"}, Undo: api.UndoPage},
		{Page: 5, Op: api.Op{Kind: api.OpHead, S: "head"}, Undo: api.UndoPage},
		{Page: 5, Op: api.Op{Kind: api.OpPut, S: "z", Old: "a"}, Undo: api.UndoPage},
		{Page: 5, Op: api.Op{Kind: api.OpFormat, At: 2, S: "h"}, Undo: api.UndoPage},
		{Page: 6, Op: api.Op{Kind: api.OpFormat, At: 2, S: "h"}, Undo: api.UndoNone},
		{Page: 6, Op: api.Op{Kind: api.OpTurn, S: "\x03h", Old: "\x00"}, Undo: api.UndoPage},
	} {
		s := begun(t, frames)
		s.lay(t, 5, "a", "b", "c")
		s.put(t, api.Rec{Kind: api.RecBegin})
		s.begin(t)
		n := s.begin(t)
		was, e := s.p.Get(c.Page)
		wantErr(t, "Get", e, api.OK)
		at := s.log(t, n, c)
		s.wantLog(t, recordOf(n, 0, c))
		s.wantState(t, n, api.TxActive, at, at)
		s.wantState(t, 1, api.TxActive, 0, 0)
		want, e := page.Apply(was, c.Op, at)
		wantErr(t, "Apply", e, api.OK)
		x, e := s.p.Get(c.Page)
		if e != api.OK || !page.Same(x, want) || x.LSN != at {
			t.Errorf("%v: %v, %d, not %v", c, x, e, want)
		}
		if s.l.Flushed() != 1 {
			t.Error("Log flushes")
		}
	}
}

// 9.2: the records of a transaction are a chain, whoever else puts some between.
func TestLogChain(t *testing.T) {
	s := begun(t, frames)
	s.lay(t, 5, "a")
	s.lay(t, 6, "a")
	one, two := s.begin(t), s.begin(t)
	var prevs [3]api.LSN
	texts := []string{"a", "b", "c", "d"}
	for i := range 3 {
		for _, n := range []int{one, two} {
			c := set(api.Page(4+n), 0, texts[i], texts[i+1])
			prev := prevs[n]
			prevs[n] = s.log(t, n, c)
			s.wantLog(t, recordOf(n, prev, c))
			s.wantState(t, n, api.TxActive, prevs[n], prevs[n])
		}
	}
	s.wantSlots(t, 5, "d")
	s.wantSlots(t, 6, "d")
}

// 9.2: Log of one that does not stand so.
func TestLogState(t *testing.T) {
	s := begun(t, frames)
	s.lay(t, 5, "a")
	n := s.aborting(t, 5)
	s.wantFails(t, "aborting", api.ErrState, func() (api.LSN, api.Errno) { return s.Log(n, set(5, 0, "b", "c")) })
	s.wantFails(t, "aborting, and no record", api.ErrState, func() (api.LSN, api.Errno) { return s.Log(n, api.Change{}) })
	s.wantSlots(t, 5, "b")

	s = begun(t, frames)
	s.lay(t, 5, "a")
	l := []api.TxState{{Tx: 1, State: api.TxCommitted}, {Tx: 2, State: api.TxAborting}, {Tx: 3, State: api.TxActive}, {Tx: 4}}
	wantErr(t, "Load", s.Load(l, 5), api.OK)
	for _, n := range []int{1, 2, 4} {
		s.wantFails(t, "loaded", api.ErrState, func() (api.LSN, api.Errno) { return s.Log(n, set(5, 0, "a", "b")) })
	}
	s.log(t, 3, set(5, 0, "a", "b"))
	s.wantSlots(t, 5, "b")
}

// noRecords is changes whose records may not be.
func noRecords() []api.Change {
	good := set(5, 0, "a", "b")
	bad := make([]api.Change, 12)
	for i := range bad {
		bad[i] = good
	}
	bad[0].Page = 0
	bad[1].Op = api.Op{}
	bad[2].Op.Kind = 8
	bad[3].Op.At = api.MaxSlots
	bad[4].Undo = 3
	bad[5].Undo = -1
	bad[6].Index = 1
	bad[7].Entry.Key = "k"
	bad[8].Live = true
	bad[9] = keyed(good, text("k", api.MaxKey+1))
	bad[10] = keyed(good, "k")
	bad[10].Index = 65536
	bad[11].Op.S = text("s", api.PageBytes+1)
	return bad
}

// 9.2: a record that may not be is told ahead of the want of room, and of all that is wrong with the page.
func TestLogNoRecord(t *testing.T) {
	s := begun(t, frames)
	s.lay(t, 5, "a")
	n := s.begin(t)
	for i, c := range noRecords() {
		s.wantFails(t, "Log", api.ErrRec, func() (api.LSN, api.Errno) { return s.Log(n, c) })
		wantErr(t, "Keep", s.l.Keep(s.l.Room()-s.l.Kept()), api.OK)
		s.wantFails(t, "Log without room", api.ErrRec, func() (api.LSN, api.Errno) { return s.Log(n, c) })
		s.l.Give(s.l.Kept() - beginRoom)
		s.wantSlots(t, 5, "a")
		if t.Failed() {
			t.Fatal(i, c)
		}
	}
}

// 9.2: want of room is told ahead of what is wrong with the page.
func TestLogNoRoomFirst(t *testing.T) {
	s := begun(t, frames)
	s.lay(t, 5, "a")
	n := s.begin(t)
	wantErr(t, "Keep", s.l.Keep(s.l.Room()-s.l.Kept()), api.OK)
	for _, c := range []api.Change{set(5, 0, "other", "b"), set(api.MaxPages+1, 0, "a", "b"), set(room+1, 0, "a", "b")} {
		s.wantFails(t, "Log", api.ErrLog, func() (api.LSN, api.Errno) { return s.Log(n, c) })
	}
	// Nothing is kept for one that can't be undone: there the page comes first.
	s.wantFails(t, "plain", api.ErrOld, func() (api.LSN, api.Errno) { return s.Log(n, plain(set(5, 0, "other", "b"))) })
	s.wantFails(t, "plain", api.ErrLog, func() (api.LSN, api.Errno) { return s.Log(n, plain(set(5, 0, "a", "b"))) })
	s.wantSlots(t, 5, "a")
}

// spoil makes a page's place and its twin unreadable.
func (s store) spoil(t *testing.T, n api.Page) {
	t.Helper()
	wantErr(t, "Write", s.d.Write(n, text("x", api.PageBytes)), api.OK)
	wantErr(t, "Write", s.d.Write(n+api.MaxPages, text("x", api.PageBytes)), api.OK)
	wantErr(t, "Sync", s.d.Sync(), api.OK)
}

// wrongPages is changes that can't be done, and why.
func wrongPages() []struct {
	c    api.Change
	want api.Errno
} {
	full := api.Op{Kind: api.OpInsert, S: text("s", 400)}
	return []struct {
		c    api.Change
		want api.Errno
	}{
		{set(api.MaxPages+1, 0, "a", "b"), api.ErrArg},
		{set(room+1, 0, "a", "b"), api.ErrSpace},
		{set(9, 0, "a", "b"), api.ErrCorrupt},
		{set(5, 0, "x", "b"), api.ErrOld},
		{set(5, 2, "a", "b"), api.ErrArg},
		{set(7, 0, "", "b"), api.ErrArg},
		{api.Change{Page: 5, Op: full, Undo: api.UndoPage}, api.ErrFull},
		{api.Change{Page: 8, Op: api.Op{Kind: api.OpInsert}, Undo: api.UndoPage}, api.ErrMany},
	}
}

// 9.2: the errors of pool.Get and page.Apply, with nothing kept behind them.
func TestLogWrongPage(t *testing.T) {
	s := begun(t, frames)
	s.lay(t, 5, "a", text("s", 200))
	s.lay(t, 8, make([]string, api.MaxSlots)...)
	s.spoil(t, 9)
	n := s.begin(t)
	for _, w := range wrongPages() {
		for _, c := range []api.Change{w.c, plain(w.c), keyed(w.c, "k")} {
			s.wantFails(t, "Log", w.want, func() (api.LSN, api.Errno) { return s.Log(n, c) })
		}
	}
	s.wantSlots(t, 5, "a", text("s", 200))
	at := s.log(t, n, set(5, 0, "a", "b"))
	if at != 1 {
		t.Error("something was put ahead of it:", at)
	}
}

// 9.2: a page that must be fetched when the power is off.
func TestLogDead(t *testing.T) {
	s := begun(t, frames)
	s.lay(t, 5, "a")
	n := s.begin(t)
	s.d.Crash(api.Fall{})
	s.wantFails(t, "Log", api.ErrDead, func() (api.LSN, api.Errno) { return s.Log(n, set(6, 0, "a", "b")) })
	s.wantFails(t, "Compensate", api.ErrDead, func() (api.LSN, api.Errno) { return s.Compensate(n, 6, set(6, 0, "a", "b").Op, 0) })
	// What is in a frame asks nothing of the disk.
	s.log(t, n, set(5, 0, "a", "b"))
}

// 9.2: pages leave the pool between changes, behind the log.
func TestLogFewFrames(t *testing.T) {
	s := begun(t, 4)
	n := s.begin(t)
	for i := range 40 {
		s.log(t, n, api.Change{Page: api.Page(i%10 + 1), Op: api.Op{Kind: api.OpInsert, S: text("s", i)}, Undo: api.UndoPage})
	}
	for i := range 10 {
		s.wantSlots(t, api.Page(i+1), text("s", i+30), text("s", i+20), text("s", i+10), text("s", i))
	}
	wantErr(t, "Abort", s.Abort(n, s.inverse), api.OK)
	for i := range 10 {
		s.wantSlots(t, api.Page(i+1))
	}
}

// 9.2: what Compensate puts, and where undoing goes on behind it.
func TestCompensate(t *testing.T) {
	s := begun(t, frames)
	s.lay(t, 5, "a")
	s.begin(t)
	n := s.begin(t)
	first := s.log(t, n, set(5, 0, "a", "b"))
	second := s.log(t, n, set(5, 0, "b", "c"))
	op := set(5, 0, "c", "b").Op
	end := s.l.End()
	at, e := s.Compensate(n, 5, op, first)
	if at != end || e != api.OK {
		t.Fatal("Compensate:", at, e)
	}
	clr := api.Rec{Kind: api.RecCLR, Tx: n, Prev: second, Next: first, Page: 5, Op: op}
	s.wantLog(t, clr)
	s.wantState(t, n, api.TxActive, at, first)
	s.wantSlots(t, 5, "b")
	if x, _ := s.p.Get(5); x.LSN != at {
		t.Error("the page's LSN:", x.LSN, at)
	}
	third := s.log(t, n, set(5, 0, "b", "d"))
	s.wantLog(t, recordOf(n, at, set(5, 0, "b", "d")))
	s.wantState(t, n, api.TxActive, third, third)
	// Of the one that stands nowhere, at any place that is told.
	if at, e = s.Compensate(1, 5, set(5, 0, "d", "e").Op, 12345); e != api.OK {
		t.Fatal("Compensate:", e)
	}
	s.wantState(t, 1, api.TxActive, at, 12345)
	s.wantState(t, n, api.TxActive, third, third)
}

// 9.2: Compensate of one that is being aborted.
func TestCompensateAborting(t *testing.T) {
	s := begun(t, frames)
	s.lay(t, 5, "a")
	n := s.aborting(t, 5)
	at, e := s.Compensate(n, 5, set(5, 0, "b", "a").Op, 0)
	wantErr(t, "Compensate", e, api.OK)
	s.wantState(t, n, api.TxAborting, at, 0)
	s.wantSlots(t, 5, "a")
}

// 9.2: what Compensate does not do.
func TestCompensateWrong(t *testing.T) {
	s := begun(t, frames)
	s.lay(t, 5, "a", text("s", 200))
	s.lay(t, 8, make([]string, api.MaxSlots)...)
	s.spoil(t, 9)
	n := s.begin(t)
	for _, w := range []struct {
		p  api.Page
		op api.Op
	}{{0, set(5, 0, "a", "b").Op}, {5, api.Op{}}, {5, api.Op{Kind: api.OpHead, At: 1}}, {api.MaxPages + 1, api.Op{Kind: 9}}} {
		s.wantFails(t, "Compensate", api.ErrRec, func() (api.LSN, api.Errno) { return s.Compensate(n, w.p, w.op, 0) })
	}
	for _, w := range wrongPages() {
		s.wantFails(t, "Compensate", w.want, func() (api.LSN, api.Errno) { return s.Compensate(n, w.c.Page, w.c.Op, 1) })
	}
	s.wantSlots(t, 5, "a", text("s", 200))
}

// 9.2: what is handed in is not kept: the record has its bytes, the page its own.
func TestLogLongest(t *testing.T) {
	s := begun(t, frames)
	s.lay(t, 5, text("a", 480))
	n := s.begin(t)
	c := keyed(set(5, 0, text("a", 480), text("b", 480)), text("k", api.MaxKey))
	c.Index, c.Entry.RID = 65535, api.RID{Page: 1<<32 - 1, Slot: 65535}
	at := s.log(t, n, c)
	r, place, e := s.Next(n)
	if e != api.OK || place != at || !rec.Same(r, recordOf(n, 0, c)) {
		t.Error("Next:", r, place, e)
	}
	wantErr(t, "Abort", s.Abort(n, s.inverse), api.OK)
	s.wantSlots(t, 5, text("a", 480))
}
