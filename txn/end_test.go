package txn_test

import (
	"slices"
	"testing"

	"girder/api"
)

// 9.4: a commit is a RecCommit, flushed, and a RecEnd.
func TestCommit(t *testing.T) {
	s := begun(t, frames)
	s.lay(t, 5, "a", "a")
	one, two := s.begin(t), s.begin(t)
	s.log(t, one, set(5, 0, "a", "b"))
	last := s.log(t, two, set(5, 1, "a", "b"))
	wantErr(t, "Commit", s.Commit(two), api.OK)
	all := s.wantLog(t, api.Rec{Kind: api.RecCommit, Tx: two, Prev: last}, api.Rec{Kind: api.RecEnd, Tx: two, Prev: s.l.End() - 2*markLong})
	if s.l.Flushed() != all[1].at {
		t.Errorf("flushed up to %d, not %d", s.l.Flushed(), all[1].at)
	}
	if _, here := s.State(two); here || len(s.All()) != 1 {
		t.Error("it is not gone:", s.All())
	}
	s.wantSlots(t, 5, "b", "b")
	wantErr(t, "Commit again", s.Commit(two), api.ErrTx)
	// One that did nothing, too, when all else is flushed.
	n := s.begin(t)
	wantErr(t, "Flush", s.l.Flush(s.l.End()), api.OK)
	wantErr(t, "Commit of nothing", s.Commit(n), api.OK)
	all = s.wantLog(t, api.Rec{Kind: api.RecCommit, Tx: n}, api.Rec{Kind: api.RecEnd, Tx: n, Prev: s.l.End() - 2*markLong})
	if s.l.Flushed() != all[1].at {
		t.Error("flushed up to", s.l.Flushed())
	}
	checkChains(t, s.l)
}

// 9.4: what committed is there when the power has failed, its RecEnd need not be.
func TestCommitStays(t *testing.T) {
	s := begun(t, frames)
	s.lay(t, 5, "a")
	n := s.begin(t)
	s.log(t, n, set(5, 0, "a", "b"))
	wantErr(t, "Commit", s.Commit(n), api.OK)
	s.d.Crash(api.Fall{})
	s.d.Up()
	again := over(t, s.d, frames)
	all := records(t, again.l)
	if len(all) != 2 || all[1].r.Kind != api.RecCommit || all[1].r.Tx != n {
		t.Error(all)
	}
}

// 9.4: Commit of one that is not active.
func TestCommitState(t *testing.T) {
	s := begun(t, frames)
	s.lay(t, 5, "a")
	n := s.aborting(t, 5)
	s.wantFails(t, "aborting", api.ErrState, func() (api.LSN, api.Errno) { return 0, s.Commit(n) })

	s = begun(t, frames)
	wantErr(t, "Load", s.Load([]api.TxState{{Tx: 1, State: api.TxCommitted}, {Tx: 2, State: api.TxAborting}, {Tx: 3, State: api.TxActive}}, 9), api.OK)
	s.wantFails(t, "committed", api.ErrState, func() (api.LSN, api.Errno) { return 0, s.Commit(1) })
	s.wantFails(t, "aborting", api.ErrState, func() (api.LSN, api.Errno) { return 0, s.Commit(2) })
	wantErr(t, "Commit of a loaded one", s.Commit(3), api.OK)
	if !slices.Equal(s.Done(), []int{3}) {
		t.Error("Done:", s.Done())
	}
}

// 9.4: a commit that can't be flushed is not told, and is no commit here; it may be tried again.
func TestCommitDead(t *testing.T) {
	s := begun(t, frames)
	s.lay(t, 5, "a")
	n := s.begin(t)
	last := s.log(t, n, set(5, 0, "a", "b"))
	for at := range 2 {
		s.d.Plan([]api.Fall{{At: s.d.Calls() + at, Log: 1 << 20}})
		wantErr(t, "Commit", s.Commit(n), api.ErrDead)
		if x, here := s.State(n); !here || x.State != api.TxActive || x.Next != last {
			t.Error("behind ErrDead:", x, here)
		}
		if len(s.Done()) != 0 {
			t.Error("Done:", s.Done())
		}
		s.d.Up()
	}
	wantErr(t, "Commit", s.Commit(n), api.OK)
	if !slices.Equal(s.Done(), []int{n}) || len(s.All()) != 0 || s.l.Kept() != 0 {
		t.Error(s.Done(), s.All(), s.l.Kept())
	}
	checkChains(t, s.l)
}

// 9.4: an abort is a RecAbort, all taken back, and a RecEnd; nothing is flushed for it.
func TestAbort(t *testing.T) {
	s := begun(t, frames)
	s.lay(t, 5, "a", "a")
	s.begin(t)
	n := s.begin(t)
	first := s.log(t, n, set(5, 0, "a", "b"))
	second := s.log(t, n, set(5, 1, "a", "b"))
	abort := s.l.End()
	wantErr(t, "Abort", s.Abort(n, s.inverse), api.OK)
	clr := api.Rec{Kind: api.RecCLR, Tx: n, Prev: abort, Next: first, Page: 5, Op: set(5, 1, "b", "a").Op}
	clrAt := abort + markLong
	again := api.Rec{Kind: api.RecCLR, Tx: n, Prev: clrAt, Next: 0, Page: 5, Op: set(5, 0, "b", "a").Op}
	againAt := clrAt + api.LSN(long(t, clr))
	s.wantLog(t, api.Rec{Kind: api.RecAbort, Tx: n, Prev: second}, clr, again, api.Rec{Kind: api.RecEnd, Tx: n, Prev: againAt})
	s.wantSlots(t, 5, "a", "a")
	if len(s.All()) != 1 || len(s.Done()) != 0 {
		t.Error(s.All(), s.Done())
	}
	if s.l.Flushed() != 1 {
		t.Error("flushed up to", s.l.Flushed())
	}
	checkChains(t, s.l)
}

// 9.4: while it is taken back, it stands as aborting.
func TestAbortState(t *testing.T) {
	s, n, _ := five(t)
	undo := func(tx int, r api.Rec) api.Errno {
		if x, _ := s.State(tx); x.State != api.TxAborting {
			t.Error("under way:", x)
		}
		if _, e := s.Log(tx, set(5, 0, "b", "c")); e != api.ErrState {
			t.Error("Log:", e)
		}
		wantErr(t, "Commit", s.Commit(tx), api.ErrState)
		wantErr(t, "Finish", s.Finish(tx), api.ErrState)
		return s.inverse(tx, r)
	}
	wantErr(t, "Abort", s.Abort(n, undo), api.OK)
}

// 9.4: Abort of one that is taken back already in part: there is one RecAbort, and nothing is taken back twice.
func TestAbortAgain(t *testing.T) {
	for good := range 5 {
		s, n, places := five(t)
		left := good
		undo := func(tx int, r api.Rec) api.Errno {
			if left == 0 {
				return 777
			}
			left--
			return s.inverse(tx, r)
		}
		wantErr(t, "Abort", s.Abort(n, undo), 777)
		if x, here := s.State(n); !here || x.State != api.TxAborting || x.Next != places[4-good] {
			t.Errorf("%d taken back: %v, %t", good, x, here)
		}
		wantErr(t, "Abort", s.Abort(n, func(int, api.Rec) api.Errno { return 778 }), 778)
		wantErr(t, "Abort", s.Abort(n, s.inverse), api.OK)
		s.wantSlots(t, 5, "a", "a", "a", "a", "a")
		// Five changes, a RecAbort, five compensations, a RecEnd.
		if s.l.Len() != 12 || s.l.Kept() != 0 || len(s.All()) != 0 {
			t.Error(s.l.Len(), s.l.Kept(), s.All())
		}
		checkChains(t, s.l)
	}
}

// 9.4: taken back to a savepoint first, and then wholly.
func TestAbortBehindRollback(t *testing.T) {
	s, n, places := five(t)
	wantErr(t, "Rollback", s.Rollback(n, places[2], s.inverse), api.OK)
	s.log(t, n, set(5, 4, "a", "c"))
	wantErr(t, "Abort", s.Abort(n, s.inverse), api.OK)
	s.wantSlots(t, 5, "a", "a", "a", "a", "a")
	if s.l.Len() != 5+2+1+1+4+1 {
		t.Error("records:", s.l.Len())
	}
	checkChains(t, s.l)
}

// 9.4: Abort of one that committed, and with a nil undo; that it committed is told first.
func TestAbortWrong(t *testing.T) {
	s := begun(t, frames)
	wantErr(t, "Load", s.Load([]api.TxState{{Tx: 1, State: api.TxCommitted}, {Tx: 2, State: api.TxActive}, {Tx: 3, State: api.TxAborting}}, 9), api.OK)
	s.wantFails(t, "committed", api.ErrState, func() (api.LSN, api.Errno) { return 0, s.Abort(1, nothing) })
	s.wantFails(t, "committed, nil", api.ErrState, func() (api.LSN, api.Errno) { return 0, s.Abort(1, nil) })
	s.wantFails(t, "active, nil", api.ErrArg, func() (api.LSN, api.Errno) { return 0, s.Abort(2, nil) })
	s.wantFails(t, "aborting, nil", api.ErrArg, func() (api.LSN, api.Errno) { return 0, s.Abort(3, nil) })
	wantErr(t, "Abort of an active one", s.Abort(2, nothing), api.OK)
	all := s.wantLog(t, api.Rec{Kind: api.RecAbort, Tx: 2}, api.Rec{Kind: api.RecEnd, Tx: 2, Prev: 1})
	if all[0].at != 1 {
		t.Error(all)
	}
	wantErr(t, "Abort of an aborting one", s.Abort(3, nothing), api.OK)
	s.wantLog(t, api.Rec{Kind: api.RecEnd, Tx: 2, Prev: 1}, api.Rec{Kind: api.RecEnd, Tx: 3})
}

// 9.4: Finish ends one that committed, and none else.
func TestFinish(t *testing.T) {
	s := begun(t, frames)
	s.lay(t, 5, "a")
	n := s.begin(t)
	s.wantFails(t, "active", api.ErrState, func() (api.LSN, api.Errno) { return 0, s.Finish(n) })
	wantErr(t, "Abort", s.Abort(n, nothing), api.OK)
	n = s.aborting(t, 5)
	s.wantFails(t, "aborting", api.ErrState, func() (api.LSN, api.Errno) { return 0, s.Finish(n) })

	s = begun(t, frames)
	s.put(t, api.Rec{Kind: api.RecBegin})
	flushed := s.l.Flushed()
	wantErr(t, "Load", s.Load([]api.TxState{{Tx: 3, State: api.TxCommitted, Last: 17, Next: 4}, {Tx: 4, State: api.TxActive}, {Tx: 5, State: api.TxAborting}}, 9), api.OK)
	s.wantFails(t, "a loaded active one", api.ErrState, func() (api.LSN, api.Errno) { return 0, s.Finish(4) })
	s.wantFails(t, "a loaded aborting one", api.ErrState, func() (api.LSN, api.Errno) { return 0, s.Finish(5) })
	wantErr(t, "Finish", s.Finish(3), api.OK)
	s.wantLog(t, api.Rec{Kind: api.RecBegin}, api.Rec{Kind: api.RecEnd, Tx: 3, Prev: 17})
	if len(s.All()) != 2 || len(s.Done()) != 0 || s.l.Flushed() != flushed {
		t.Error(s.All(), s.Done(), s.l.Flushed())
	}
	wantErr(t, "Finish again", s.Finish(3), api.ErrTx)
}
