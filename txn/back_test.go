package txn_test

import (
	"slices"
	"testing"

	"girder/api"
	"girder/rec"
)

// The chapter's example.
func TestExample(t *testing.T) {
	s := begun(t, frames)
	s.lay(t, 5, "0")
	n := s.begin(t)
	if n != 1 {
		t.Error("Begin:", n)
	}
	if at, e := s.Log(1, set(5, 0, "0", "1")); at != 1 || e != api.OK {
		t.Error("Log:", at, e)
	}
	if at, e := s.Save(1); at != 1 || e != api.OK {
		t.Error("Save:", at, e)
	}
	second := s.log(t, 1, set(5, 0, "1", "2"))
	wantErr(t, "Rollback", s.Rollback(1, 1, s.inverse), api.OK)
	s.wantSlots(t, 5, "1")
	s.wantLog(t, api.Rec{Kind: api.RecCLR, Tx: 1, Prev: second, Next: 1, Page: 5, Op: set(5, 0, "2", "1").Op})
	if at, e := s.Save(1); at != 1 || e != api.OK {
		t.Error("Save:", at, e)
	}
}

// 9.3: Save is where undoing goes on, and puts nothing.
func TestSave(t *testing.T) {
	s := begun(t, frames)
	s.lay(t, 5, "a")
	n := s.begin(t)
	save := func(want api.LSN) {
		t.Helper()
		was := s.look()
		if at, e := s.Save(n); at != want || e != api.OK {
			t.Errorf("Save: %d, %d, not %d", at, e, want)
		}
		s.wantSame(t, "Save", was)
	}
	save(0)
	first := s.log(t, n, set(5, 0, "a", "b"))
	save(first)
	second := s.log(t, n, plain(set(5, 0, "b", "c")))
	save(second)
	_, e := s.Top(n, first)
	wantErr(t, "Top", e, api.OK)
	save(first)
	_, e = s.Compensate(n, 5, set(5, 0, "c", "d").Op, 0)
	wantErr(t, "Compensate", e, api.OK)
	save(0)
}

// 9.3: the end of a nested top action: what it did stays.
func TestTop(t *testing.T) {
	s := begun(t, frames)
	s.lay(t, 5, "a", "a")
	n := s.begin(t)
	first := s.log(t, n, set(5, 0, "a", "b"))
	s.log(t, n, set(5, 1, "a", "b"))
	last := s.log(t, n, set(5, 1, "b", "c"))
	end := s.l.End()
	top, e := s.Top(n, first)
	if top != end || e != api.OK {
		t.Error("Top:", top, e)
	}
	s.wantLog(t, api.Rec{Kind: api.RecTop, Tx: n, Prev: last, Next: first})
	s.wantState(t, n, api.TxActive, top, first)
	if _, at, e := s.Next(n); at != first || e != api.OK {
		t.Error("Next:", at, e)
	}
	wantErr(t, "Abort", s.Abort(n, s.inverse), api.OK)
	s.wantSlots(t, 5, "a", "c")
}

// 9.3: Top at the place where it stands, at 0, and at one above.
func TestTopPlaces(t *testing.T) {
	s := begun(t, frames)
	s.lay(t, 5, "a")
	n := s.begin(t)
	s.wantFails(t, "Top above 0", api.ErrArg, func() (api.LSN, api.Errno) { return s.Top(n, 1) })
	first := s.log(t, n, set(5, 0, "a", "b"))
	s.wantFails(t, "Top above", api.ErrArg, func() (api.LSN, api.Errno) { return s.Top(n, first+1) })
	top, e := s.Top(n, first)
	wantErr(t, "Top where it stands", e, api.OK)
	s.wantState(t, n, api.TxActive, top, first)
	s.wantFails(t, "Top at the last Top", api.ErrArg, func() (api.LSN, api.Errno) { return s.Top(n, top) })
	again, e := s.Top(n, 0)
	wantErr(t, "Top at 0", e, api.OK)
	s.wantLog(t, api.Rec{Kind: api.RecTop, Tx: n, Prev: top, Next: 0})
	s.wantState(t, n, api.TxActive, again, 0)
	s.wantFails(t, "Top above again", api.ErrArg, func() (api.LSN, api.Errno) { return s.Top(n, first) })
}

// 9.3: nested top actions in one another, and one that is taken back ahead of its end.
func TestTopsNested(t *testing.T) {
	s := begun(t, frames)
	s.lay(t, 5, "a", "a", "a", "a")
	n := s.begin(t)
	s.log(t, n, set(5, 0, "a", "b"))
	outer, _ := s.Save(n)
	s.log(t, n, set(5, 1, "a", "b"))
	inner, _ := s.Save(n)
	s.log(t, n, set(5, 2, "a", "b"))
	_, e := s.Top(n, inner)
	wantErr(t, "Top", e, api.OK)
	s.log(t, n, set(5, 3, "a", "b"))
	wantErr(t, "Rollback", s.Rollback(n, outer, s.inverse), api.OK)
	s.wantSlots(t, 5, "b", "a", "b", "a")
	s.log(t, n, set(5, 1, "a", "c"))
	_, e = s.Top(n, outer)
	wantErr(t, "Top", e, api.OK)
	wantErr(t, "Abort", s.Abort(n, s.inverse), api.OK)
	s.wantSlots(t, 5, "a", "c", "b", "a")
	checkChains(t, s.l)
}

// laid is a store with these records in its log, one behind the other, each with Prev and Next as told by its place in the list (from 1 on; 0: none), and the transaction 1 at the last of them.
func laid(t *testing.T, l ...api.Rec) (store, []api.LSN) {
	t.Helper()
	s := begun(t, frames)
	places := []api.LSN{0}
	for _, r := range l {
		r.Prev, r.Next = places[r.Prev], places[r.Next]
		places = append(places, s.put(t, r))
	}
	last := places[len(places)-1]
	wantErr(t, "Load", s.Load([]api.TxState{{Tx: 1, State: api.TxActive, Last: last, Next: last}}, 5), api.OK)
	return s, places
}

// upd is the record of a change.
func upd(prev api.LSN, undo int) api.Rec {
	return api.Rec{Kind: api.RecUpdate, Tx: 1, Prev: prev, Page: 5, Op: set(5, 0, "a", "b").Op, Undo: undo}
}

// clr is the record of a compensation.
func clr(prev, next api.LSN) api.Rec {
	return api.Rec{Kind: api.RecCLR, Tx: 1, Prev: prev, Next: next, Page: 5, Op: set(5, 0, "a", "b").Op}
}

// other is a record of another kind.
func other(kind int, prev api.LSN) api.Rec { return api.Rec{Kind: kind, Tx: 1, Prev: prev} }

// top is the end of a nested top action.
func top(prev, next api.LSN) api.Rec {
	return api.Rec{Kind: api.RecTop, Tx: 1, Prev: prev, Next: next}
}

// 9.3: what Next passes over, and where it comes to.
func TestNext(t *testing.T) {
	for _, c := range []struct {
		what string
		l    []api.Rec
		want int
	}{
		{"none", nil, 0},
		{"by the page", []api.Rec{upd(0, api.UndoPage)}, 1},
		{"by the key", []api.Rec{upd(0, api.UndoKey)}, 1},
		{"UndoNone at the front", []api.Rec{upd(0, api.UndoNone)}, 0},
		{"UndoNone", []api.Rec{upd(0, api.UndoPage), upd(1, api.UndoNone)}, 1},
		{"a CLR to 0", []api.Rec{upd(0, api.UndoPage), clr(1, 0)}, 0},
		{"a CLR to its Next", []api.Rec{upd(0, api.UndoPage), upd(1, api.UndoPage), clr(2, 1)}, 1},
		{"a CLR to another CLR", []api.Rec{upd(0, api.UndoPage), upd(1, api.UndoPage), clr(2, 1), upd(3, api.UndoPage), clr(4, 3)}, 1},
		{"a Top to 0", []api.Rec{upd(0, api.UndoPage), top(1, 0)}, 0},
		{"a Top to its Next", []api.Rec{upd(0, api.UndoPage), upd(1, api.UndoPage), upd(2, api.UndoPage), top(3, 1)}, 1},
		{"a Top to a Top", []api.Rec{upd(0, api.UndoPage), upd(1, api.UndoPage), top(2, 1), upd(3, api.UndoPage), top(4, 3)}, 1},
		{"behind a Top", []api.Rec{upd(0, api.UndoPage), top(1, 0), upd(2, api.UndoPage)}, 3},
		{"RecCommit", []api.Rec{upd(0, api.UndoPage), other(api.RecCommit, 1)}, 1},
		{"RecAbort", []api.Rec{upd(0, api.UndoPage), other(api.RecAbort, 1)}, 1},
		{"RecEnd", []api.Rec{upd(0, api.UndoPage), other(api.RecEnd, 1)}, 1},
		{"RecBegin", []api.Rec{upd(0, api.UndoPage), other(api.RecBegin, 1)}, 1},
		{"RecCheck", []api.Rec{upd(0, api.UndoPage), other(api.RecCheck, 1)}, 1},
		{"RecAbort at the front", []api.Rec{other(api.RecAbort, 0)}, 0},
		{"all of them", []api.Rec{upd(0, api.UndoPage), upd(1, api.UndoNone), other(api.RecCommit, 2), top(0, 3), upd(4, api.UndoNone), clr(1, 5)}, 1},
	} {
		s, places := laid(t, c.l...)
		was := s.look()
		want := places[c.want]
		for range 2 {
			r, at, e := s.Next(1)
			if at != want || e != api.OK {
				t.Errorf("%s: %d, %d, not %d", c.what, at, e, want)
			}
			var told api.Rec
			if c.want > 0 {
				told = c.l[c.want-1]
				told.Prev = places[told.Prev]
			}
			if !rec.Same(r, told) {
				t.Errorf("%s: %v, not %v", c.what, r, told)
			}
		}
		// Its Next is that then; its Last is as it was, and nothing is put.
		was.all[0].Next = want
		s.wantSame(t, c.what, was)
	}
}

// 9.3: what may not stand in a chain.
func TestNextWrong(t *testing.T) {
	strange := upd(0, api.UndoPage)
	strange.Tx = 2
	strangeAbort := other(api.RecAbort, 0)
	strangeAbort.Tx = 2
	for what, l := range map[string][]api.Rec{
		"another one's change": {strange},
		"another one's abort":  {upd(0, api.UndoPage), strangeAbort},
		"behind a CLR":         {strange, clr(0, 1)},
		"behind a Top":         {strange, top(0, 1)},
		"behind UndoNone":      {strange, upd(1, api.UndoNone)},
		"behind an abort":      {strange, other(api.RecAbort, 1)},
	} {
		s, _ := laid(t, l...)
		wantNextFails(t, what, s)
	}
}

// wantNextFails asks that Next of the transaction 1, and Rollback and Abort, meet something that may not stand there.
func wantNextFails(t *testing.T, what string, s store) {
	t.Helper()
	s.wantFails(t, what, api.ErrRec, func() (api.LSN, api.Errno) {
		r, at, e := s.Next(1)
		if !rec.Same(r, api.Rec{}) {
			t.Errorf("%s: %v", what, r)
		}
		return at, e
	})
	s.wantFails(t, what, api.ErrRec, func() (api.LSN, api.Errno) { return 0, s.Rollback(1, 0, nothing) })
	wantErr(t, what+": Abort", s.Abort(1, nothing), api.ErrRec)
	if x, here := s.State(1); !here || x.State != api.TxAborting {
		t.Errorf("%s: behind Abort: %v, %t", what, x, here)
	}
}

// 9.3: places at which no record begins, and bytes that are no record.
func TestNextNoRecord(t *testing.T) {
	for _, next := range []api.LSN{2, 13, 14, 25, 27, 1000, api.MaxLog + 1, 1<<64 - 1} {
		s := begun(t, frames)
		s.put(t, other(api.RecAbort, 0))
		wantErr(t, "Load", s.Load([]api.TxState{{Tx: 1, State: api.TxActive, Last: 1, Next: next}}, 5), api.OK)
		wantNextFails(t, "no record", s)
	}
	// At the end nothing stands yet.
	s := begun(t, frames)
	wantErr(t, "Load", s.Load([]api.TxState{{Tx: 1, State: api.TxActive, Next: 1}}, 5), api.OK)
	s.wantFails(t, "at the end", api.ErrRec, func() (api.LSN, api.Errno) { _, at, e := s.Next(1); return at, e })
	s = begun(t, frames)
	at, e := s.l.Append("no record")
	wantErr(t, "Append", e, api.OK)
	wantErr(t, "Load", s.Load([]api.TxState{{Tx: 1, State: api.TxActive, Next: at}}, 5), api.OK)
	wantNextFails(t, "bytes", s)
}

// 9.3, 9.4, R1: chains that lead round and round are gone to no end.
func TestNextRound(t *testing.T) {
	long := api.LSN(markLong)
	for what, l := range map[string][]api.Rec{
		"a Top to itself":     {top(0, 1)},
		"two Tops":            {top(0, 1+topLong), top(0, 1)},
		"an abort to itself":  {other(api.RecAbort, 1)},
		"two aborts":          {other(api.RecAbort, 1+long), other(api.RecAbort, 1)},
		"an abort far behind": {other(api.RecAbort, 999)},
	} {
		s := begun(t, frames)
		last := api.LSN(0)
		for _, r := range l {
			last = s.put(t, r)
		}
		wantErr(t, "Load", s.Load([]api.TxState{{Tx: 1, State: api.TxActive, Last: last, Next: last}}, 5), api.OK)
		wantNextFails(t, what, s)
	}
	// A change whose Prev is itself: it is told, and undoing goes on nowhere.
	s := begun(t, frames)
	s.put(t, upd(1, api.UndoPage))
	wantErr(t, "Load", s.Load([]api.TxState{{Tx: 1, State: api.TxActive, Last: 1, Next: 1}}, 5), api.OK)
	if _, at, e := s.Next(1); at != 1 || e != api.OK {
		t.Error("Next:", at, e)
	}
	asked := 0
	wantErr(t, "Rollback", s.Rollback(1, 0, func(int, api.Rec) api.Errno { asked++; return api.OK }), api.ErrRec)
	if asked != 1 {
		t.Error("asked so often:", asked)
	}
}

// 9.3, R1: compensations that say that undoing goes on where another one will stand.
func TestNextRoundOfCompensations(t *testing.T) {
	s := begun(t, frames)
	s.lay(t, 5, "a")
	n := s.begin(t)
	op, back := set(5, 0, "a", "b").Op, set(5, 0, "b", "a").Op
	first := s.l.End()
	second := first + api.LSN(long(t, api.Rec{Kind: api.RecCLR, Tx: n, Page: 5, Op: op}))
	_, e := s.Compensate(n, 5, op, second)
	wantErr(t, "Compensate", e, api.OK)
	s.wantFails(t, "Next of nothing yet", api.ErrRec, func() (api.LSN, api.Errno) { _, at, e := s.Next(n); return at, e })
	at, e := s.Compensate(n, 5, back, first)
	wantErr(t, "Compensate", e, api.OK)
	if at != second {
		t.Fatal("the second one is elsewhere:", at, second)
	}
	s.wantFails(t, "Next", api.ErrRec, func() (api.LSN, api.Errno) { _, at, e := s.Next(n); return at, e })
}

// five is a store with a transaction that did five changes, each of a slot of its own, and their places.
func five(t *testing.T) (store, int, []api.LSN) {
	t.Helper()
	s := begun(t, frames)
	s.lay(t, 5, "a", "a", "a", "a", "a")
	n := s.begin(t)
	var places []api.LSN
	for i := range 5 {
		places = append(places, s.log(t, n, set(5, i, "a", "b")))
	}
	return s, n, places
}

// 9.4: what is behind a place is taken back, the last one first, and nothing else.
func TestRollback(t *testing.T) {
	for to := range 6 {
		s, n, places := five(t)
		places = append([]api.LSN{0}, places...)
		var asked []api.LSN
		undo := func(tx int, r api.Rec) api.Errno {
			if tx != n || r.Tx != n {
				t.Error("undo of", tx, r.Tx)
			}
			x, _ := s.State(n)
			asked = append(asked, x.Next)
			if want := recordOf(n, r.Prev, set(5, r.Op.At, "a", "b")); !rec.Same(r, want) {
				t.Errorf("undo of %v, not %v", r, want)
			}
			return s.inverse(tx, r)
		}
		wantErr(t, "Rollback", s.Rollback(n, places[to], undo), api.OK)
		want := slices.Clone(places[to+1:])
		slices.Reverse(want)
		if !slices.Equal(asked, want) {
			t.Errorf("to %d: taken back: %v, not %v", to, asked, want)
		}
		slots := make([]string, 5)
		for i := range slots {
			slots[i] = "a"
			if i < to {
				slots[i] = "b"
			}
		}
		s.wantSlots(t, 5, slots...)
		if at, _ := s.Save(n); at != places[to] {
			t.Errorf("to %d: Save: %d", to, at)
		}
		// What is taken back is not taken back again.
		many := s.l.Len()
		wantErr(t, "Rollback again", s.Rollback(n, places[to], undo), api.OK)
		if s.l.Len() != many {
			t.Error("something is taken back twice")
		}
		wantErr(t, "Rollback wholly", s.Rollback(n, 0, s.inverse), api.OK)
		s.wantSlots(t, 5, "a", "a", "a", "a", "a")
		checkChains(t, s.l)
		wantErr(t, "Commit", s.Commit(n), api.OK)
	}
}

// 9.4: to a place at which no record is, and to one behind all.
func TestRollbackBetween(t *testing.T) {
	s, n, places := five(t)
	was := s.look()
	wantErr(t, "Rollback to the last", s.Rollback(n, places[4], s.inverse), api.OK)
	wantErr(t, "Rollback to the end", s.Rollback(n, s.l.End(), s.inverse), api.OK)
	wantErr(t, "Rollback far behind", s.Rollback(n, 1<<63, s.inverse), api.OK)
	s.wantSame(t, "Rollback", was)
	wantErr(t, "Rollback between", s.Rollback(n, places[3]-1, s.inverse), api.OK)
	s.wantSlots(t, 5, "b", "b", "b", "a", "a")
	wantErr(t, "Rollback between", s.Rollback(n, places[1]+1, s.inverse), api.OK)
	s.wantSlots(t, 5, "b", "b", "a", "a", "a")
}

// 9.4: a nil undo.
func TestRollbackNil(t *testing.T) {
	s, n, places := five(t)
	s.wantFails(t, "Rollback", api.ErrArg, func() (api.LSN, api.Errno) { return 0, s.Rollback(n, 0, nil) })
	// Also where there is nothing to be taken back.
	s.wantFails(t, "Rollback", api.ErrArg, func() (api.LSN, api.Errno) { return 0, s.Rollback(n, places[4], nil) })
}

// 9.4: an undo's error ends it: what was taken back stays so, and the rest is taken back by another one.
func TestRollbackFails(t *testing.T) {
	for good := range 5 {
		s, n, places := five(t)
		left := good
		undo := func(tx int, r api.Rec) api.Errno {
			if left == 0 {
				return 777
			}
			left--
			return s.inverse(tx, r)
		}
		wantErr(t, "Rollback", s.Rollback(n, 0, undo), 777)
		x, _ := s.State(n)
		if x.State != api.TxActive || x.Next != places[4-good] {
			t.Errorf("%d taken back: %v", good, x)
		}
		if s.l.Len() != 5+good {
			t.Errorf("%d taken back: %d records", good, s.l.Len())
		}
		wantErr(t, "Rollback", s.Rollback(n, 0, s.inverse), api.OK)
		s.wantSlots(t, 5, "a", "a", "a", "a", "a")
		if s.l.Len() != 10 {
			t.Error("records:", s.l.Len())
		}
		checkChains(t, s.l)
	}
}

// 9.4: an undo that fails behind what it did.
func TestRollbackFailsBehind(t *testing.T) {
	s, n, places := five(t)
	undo := func(tx int, r api.Rec) api.Errno {
		wantErr(t, "inverse", s.inverse(tx, r), api.OK)
		return 777
	}
	wantErr(t, "Rollback", s.Rollback(n, 0, undo), 777)
	if at, _ := s.Save(n); at != places[3] {
		t.Error("Save:", at)
	}
	wantErr(t, "Rollback", s.Rollback(n, 0, s.inverse), api.OK)
	s.wantSlots(t, 5, "a", "a", "a", "a", "a")
	checkChains(t, s.l)
}

// 9.4: an undo that leaves Next as it was: it goes on at the record's Prev.
func TestRollbackNothing(t *testing.T) {
	s, n, places := five(t)
	var asked []int
	undo := func(_ int, r api.Rec) api.Errno {
		asked = append(asked, r.Op.At)
		return api.OK
	}
	wantErr(t, "Rollback", s.Rollback(n, places[1], undo), api.OK)
	if !slices.Equal(asked, []int{4, 3, 2}) {
		t.Error("asked:", asked)
	}
	s.wantState(t, n, api.TxActive, places[4], places[1])
	s.wantSlots(t, 5, "b", "b", "b", "b", "b")
	if s.l.Len() != 5 {
		t.Error("records:", s.l.Len())
	}
	wantErr(t, "Rollback", s.Rollback(n, 0, undo), api.OK)
	if !slices.Equal(asked, []int{4, 3, 2, 1, 0}) {
		t.Error("asked:", asked)
	}
	s.wantState(t, n, api.TxActive, places[4], 0)
}

// 9.4: an undo that says that undoing goes on where it is: that leaves Next as it was.
func TestRollbackStays(t *testing.T) {
	s, n, _ := five(t)
	asked := 0
	undo := func(tx int, r api.Rec) api.Errno {
		asked++
		x, _ := s.State(tx)
		_, e := s.Compensate(tx, r.Page, api.Op{Kind: api.OpSet, At: r.Op.At, S: "a", Old: "b"}, x.Next)
		return e
	}
	wantErr(t, "Rollback", s.Rollback(n, 0, undo), api.OK)
	s.wantSlots(t, 5, "a", "a", "a", "a", "a")
	if asked != 5 {
		t.Error("asked so often:", asked)
	}
}

// 9.4: an undo that takes back more than it is asked for: what it says is where undoing goes on.
func TestRollbackFarther(t *testing.T) {
	s, n, places := five(t)
	var asked []int
	undo := func(tx int, r api.Rec) api.Errno {
		asked = append(asked, r.Op.At)
		next := r.Prev
		if r.Op.At == 3 {
			next = places[0]
		}
		_, e := s.Compensate(tx, r.Page, api.Op{Kind: api.OpSet, At: r.Op.At, S: "a", Old: "b"}, next)
		return e
	}
	wantErr(t, "Rollback", s.Rollback(n, 0, undo), api.OK)
	if !slices.Equal(asked, []int{4, 3, 0}) {
		t.Error("asked:", asked)
	}
	s.wantSlots(t, 5, "a", "b", "b", "a", "a")
}

// 9.4: an undo that logs a change that can't be undone on its way.
func TestRollbackLogs(t *testing.T) {
	s, n, _ := five(t)
	s.lay(t, 6, "")
	count := 0
	undo := func(tx int, r api.Rec) api.Errno {
		if _, e := s.Log(tx, plain(set(6, 0, text("x", count), text("x", count+1)))); e != api.OK {
			return e
		}
		count++
		return s.inverse(tx, r)
	}
	wantErr(t, "Rollback", s.Rollback(n, 0, undo), api.OK)
	s.wantSlots(t, 5, "a", "a", "a", "a", "a")
	s.wantSlots(t, 6, "xxxxx")
}

// 9.4, R1: an undo that ends the transaction, by whatever way.
func TestRollbackEnded(t *testing.T) {
	s, n, _ := five(t)
	wantErr(t, "Rollback", s.Rollback(n, 0, func(tx int, _ api.Rec) api.Errno { return s.Commit(tx) }), api.ErrTx)
	if len(s.All()) != 0 || !slices.Equal(s.Done(), []int{n}) || s.l.Kept() != 0 {
		t.Error(s.All(), s.Done(), s.l.Kept())
	}
	s, n, _ = five(t)
	wantErr(t, "Abort", s.Abort(n, func(tx int, _ api.Rec) api.Errno { return s.Abort(tx, s.inverse) }), api.ErrTx)
	if len(s.All()) != 0 || s.l.Kept() != 0 {
		t.Error(s.All(), s.l.Kept())
	}
	s.wantSlots(t, 5, "a", "a", "a", "a", "a")
	// Ended, and laid again as one without records.
	s, n, _ = five(t)
	again := func(tx int, _ api.Rec) api.Errno {
		wantErr(t, "Abort", s.Abort(tx, s.inverse), api.OK)
		return s.Load([]api.TxState{{Tx: tx, State: api.TxAborting}}, tx+1)
	}
	wantErr(t, "Abort", s.Abort(n, again), api.OK)
	if len(s.All()) != 0 || s.l.Kept() != 0 {
		t.Error(s.All(), s.l.Kept())
	}
}

// 9.4, R1: an undo that panics is an argument that may not be.
func TestRollbackPanics(t *testing.T) {
	s, n, places := five(t)
	was := s.look()
	wantErr(t, "Rollback", s.Rollback(n, 0, func(int, api.Rec) api.Errno { panic("undo") }), api.ErrArg)
	s.wantSame(t, "Rollback", was)
	wantErr(t, "Abort", s.Abort(n, func(int, api.Rec) api.Errno { panic("undo") }), api.ErrArg)
	if x, here := s.State(n); !here || x.State != api.TxAborting || x.Next != places[4] {
		t.Error(x, here)
	}
	wantErr(t, "Abort", s.Abort(n, s.inverse), api.OK)
	s.wantSlots(t, 5, "a", "a", "a", "a", "a")
}

// 9.4, R1: an undo that does ever new changes ends when the log has no room.
func TestRollbackEver(t *testing.T) {
	s := begun(t, frames)
	s.lay(t, 5, text("a", 400))
	n := s.begin(t)
	s.log(t, n, set(5, 0, text("a", 400), text("b", 400)))
	turn := [2]string{text("b", 400), text("a", 400)}
	undo := func(tx int, r api.Rec) api.Errno {
		_, e := s.Log(tx, set(5, 0, turn[0], turn[1]))
		if e == api.OK {
			turn[0], turn[1] = turn[1], turn[0]
		}
		return e
	}
	wantErr(t, "Rollback", s.Rollback(n, 0, undo), api.ErrLog)
	wantErr(t, "Abort", s.Abort(n, s.inverse), api.OK)
	s.wantSlots(t, 5, text("a", 400))
}
