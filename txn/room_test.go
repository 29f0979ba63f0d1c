package txn_test

import (
	"slices"
	"testing"

	"girder/api"
	"girder/page"
	"girder/rec"
	"girder/txn"
)

// filler is what records begin with that only fill the log: no record of the program does.
const filler = "\xff"

// leave keeps so much of the log that just so many bytes are free.
func (s store) leave(t *testing.T, free int) {
	t.Helper()
	wantErr(t, "Keep", s.l.Keep(s.l.Room()-s.l.Kept()-free), api.OK)
}

// fill puts records into the log until just so many bytes are free beside what is kept, or fewer than a frame has more.
func (s store) fill(t *testing.T, free int) {
	t.Helper()
	const least = api.FrameBytes + 1
	for left := s.l.Room() - s.l.Kept() - free; left >= least; left = s.l.Room() - s.l.Kept() - free {
		n := min(left, api.FrameBytes+api.MaxRecord)
		if rest := left - n; rest > 0 && rest < least {
			n -= least
		}
		_, e := s.l.Append(text(filler, n-api.FrameBytes))
		wantErr(t, "Append", e, api.OK)
	}
}

// wantKept asks how much is kept.
func (s store) wantKept(t *testing.T, what string, want int) {
	t.Helper()
	if s.l.Kept() != want {
		t.Errorf("%s: %d kept, not %d", what, s.l.Kept(), want)
	}
}

// Words, 9.1 to 9.4: how much is kept, call by call.
func TestKept(t *testing.T) {
	s := begun(t, frames)
	s.lay(t, 5, "a", "a", "a")
	one := s.begin(t)
	s.wantKept(t, "Begin", beginRoom)
	n := s.begin(t)
	kept := 2 * beginRoom
	s.wantKept(t, "Begin", kept)
	for i, c := range []api.Change{set(5, 0, "a", text("b", 100)), keyed(set(5, 1, "a", "b"), "key")} {
		s.log(t, n, c)
		kept += long(t, recordOf(n, 0, c)) + undoRoom
		s.wantKept(t, "Log", kept)
		if i == 0 {
			s.log(t, n, plain(set(5, 2, "a", "b")))
			s.wantKept(t, "Log of what can't be undone", kept)
		}
	}
	at, _ := s.Save(n)
	s.wantKept(t, "Save", kept)
	_, e := s.Top(n, at)
	wantErr(t, "Top", e, api.OK)
	kept -= topLong
	s.wantKept(t, "Top", kept)
	op := set(5, 1, "b", "a").Op
	_, e = s.Compensate(n, 5, op, 1)
	wantErr(t, "Compensate", e, api.OK)
	kept -= long(t, api.Rec{Kind: api.RecCLR, Tx: n, Next: 1, Page: 5, Op: op})
	s.wantKept(t, "Compensate", kept)
	wantErr(t, "Abort", s.Abort(n, func(int, api.Rec) api.Errno { return 777 }), 777)
	kept -= markLong
	s.wantKept(t, "a RecAbort", kept)
	wantErr(t, "Abort", s.Abort(n, s.inverse), api.OK)
	s.wantKept(t, "the end", beginRoom)
	wantErr(t, "Commit", s.Commit(one), api.OK)
	s.wantKept(t, "the end", 0)
}

// 9.1: Begin at the room that it keeps, and with one byte less.
func TestBeginRoom(t *testing.T) {
	for _, full := range []func(s store, t *testing.T, free int){store.leave, store.fill} {
		s := begun(t, frames)
		full(s, t, beginRoom-1)
		was := s.look()
		if n, e := s.Begin(); n != 0 || e != api.ErrLog {
			t.Error("Begin:", n, e)
		}
		s.wantSame(t, "Begin", was)
		s = begun(t, frames)
		full(s, t, beginRoom)
		if n := s.begin(t); n != 1 {
			t.Error("Begin:", n)
		}
	}
}

// 9.2: Log at the room that it needs (its frame, and what is kept for it), with one byte less, and with less than what is kept.
func TestLogRoom(t *testing.T) {
	for _, c := range []api.Change{set(5, 0, "a", text("b", 77)), keyed(set(5, 0, "a", "b"), "k"), plain(set(5, 0, "a", "b"))} {
		frame := long(t, recordOf(1, 0, c))
		keeps := frame + undoRoom
		if c.Undo == api.UndoNone {
			keeps = 0
		}
		for _, full := range []func(s store, t *testing.T, free int){store.leave, store.fill} {
			for _, free := range []int{0, frame - 1, max(keeps-1, 0), keeps, frame + keeps - 1} {
				s := begun(t, frames)
				s.lay(t, 5, "a")
				n := s.begin(t)
				full(s, t, free)
				s.wantFails(t, "Log", api.ErrLog, func() (api.LSN, api.Errno) { return s.Log(n, c) })
				s.wantSlots(t, 5, "a")
			}
			s := begun(t, frames)
			s.lay(t, 5, "a")
			n := s.begin(t)
			full(s, t, frame+keeps)
			kept := s.l.Kept()
			s.log(t, n, c)
			s.wantKept(t, "Log", kept+keeps)
		}
	}
}

// 9.4, 9.5: who only began can end, by either way, in a log that is full.
func TestEndInFullLog(t *testing.T) {
	for _, end := range []func(s store, n int) api.Errno{
		func(s store, n int) api.Errno { return s.Commit(n) },
		func(s store, n int) api.Errno { return s.Abort(n, s.inverse) },
	} {
		s := begun(t, frames)
		for range api.MaxTx {
			s.begin(t)
		}
		s.fill(t, 0)
		for n := 1; n <= api.MaxTx; n++ {
			wantErr(t, "Top", second(s.Top(n, 0)), api.OK)
			wantErr(t, "Top", second(s.Top(n, 0)), api.OK)
			wantErr(t, "the end", end(s, n), api.OK)
		}
		s.wantKept(t, "the end", 0)
		checkChains(t, s.l)
	}
}

// second is the error of a call that tells a place, too.
func second(_ api.LSN, e api.Errno) api.Errno { return e }

// spread is changes of a page of its own for each transaction, there and back.
func spread(n, turn, size int) api.Change {
	a, b := text("a", size), text("b", size)
	if turn%2 == 1 {
		a, b = b, a
	}
	return set(api.Page(n), 0, a, b)
}

// 9.5: in a log that changes of all sizes have filled, all can go back to where they began.
func TestBackInFullLog(t *testing.T) {
	const many = 5
	s := begun(t, frames)
	sizes := []int{0, 230, 11, 100, 1, 199}
	for n := 1; n <= many; n++ {
		s.lay(t, api.Page(n), text("a", sizes[n]))
		s.begin(t)
	}
	for turn := 0; ; turn++ {
		full := 0
		for n := 1; n <= many; n++ {
			c := spread(n, turn, sizes[n])
			if n == 3 {
				c = keyed(c, text("k", turn%api.MaxKey))
			}
			if _, e := s.Log(n, c); e == api.ErrLog {
				full++
			} else if e != api.OK {
				t.Fatal("Log:", e)
			}
		}
		if full > 0 {
			break
		}
	}
	// What is free now is taken, too.
	s.fill(t, 0)
	for n := many; n >= 1; n-- {
		wantErr(t, "Abort", s.Abort(n, s.inverse), api.OK)
		s.wantSlots(t, api.Page(n), text("a", sizes[n]))
	}
	s.wantKept(t, "the end", 0)
	checkChains(t, s.l)
}

// 9.5: going back to savepoints in a full log, there and back, as long as there is room for changes; and then wholly.
func TestSavepointsInFullLog(t *testing.T) {
	s := begun(t, frames)
	s.lay(t, 1, text("a", 100))
	n := s.begin(t)
	s.log(t, n, spread(1, 0, 100))
	save, _ := s.Save(n)
	s.fill(t, 5000)
	rounds := 0
	for {
		if _, e := s.Log(n, spread(1, 1, 100)); e == api.ErrLog {
			break
		} else if e != api.OK {
			t.Fatal("Log:", e)
		}
		wantErr(t, "Rollback", s.Rollback(n, save, s.inverse), api.OK)
		s.wantSlots(t, 1, text("b", 100))
		rounds++
	}
	if rounds < 5 {
		t.Error("rounds:", rounds)
	}
	s.fill(t, 0)
	wantErr(t, "Abort", s.Abort(n, s.inverse), api.OK)
	s.wantSlots(t, 1, text("a", 100))
	checkChains(t, s.l)
}

// 9.5: nested top actions of changes that keep nothing, as many as there is room for: who did them, and others, can go back.
func TestTopsInFullLog(t *testing.T) {
	s := begun(t, frames)
	for n := 1; n <= 2; n++ {
		s.lay(t, api.Page(n), text("a", 50))
		s.begin(t)
		s.log(t, n, spread(n, 0, 50))
	}
	s.lay(t, 3, "")
	s.fill(t, 10000)
	for done := 0; ; done++ {
		at, _ := s.Save(1)
		op := api.Op{Kind: api.OpHead, S: text("h", (done+1)%2), Old: text("h", done%2)}
		if _, e := s.Log(1, api.Change{Page: 3, Op: op}); e != api.OK {
			wantErr(t, "Log", e, api.ErrLog)
			break
		}
		if _, e := s.Top(1, at); e != api.OK {
			wantErr(t, "Top", e, api.ErrLog)
			break
		}
	}
	s.fill(t, 0)
	for n := 1; n <= 2; n++ {
		wantErr(t, "Abort", s.Abort(n, s.inverse), api.OK)
		s.wantSlots(t, api.Page(n), text("a", 50))
	}
	s.wantKept(t, "the end", 0)
}

// 9.5: whoever puts all the Tops that it can, takes neither the others' way back nor its own.
func TestFloodOfTops(t *testing.T) {
	for _, free := range []int{0, 1, topLong, 1000} {
		s := floods(t, free)
		s.flood(t, 1, func(int) api.Errno { return second(s.Top(1, s.at(1))) })
		for n := 1; n <= 3; n++ {
			wantErr(t, "Abort", s.Abort(n, s.parts), api.OK)
			s.wantSlots(t, api.Page(n), text("a", 200))
		}
		s.wantKept(t, "the end", 0)
	}
}

// 9.5: likewise of one that went back to a savepoint, of one that failed in the midst of a compensation in parts, and of one that is being aborted.
func TestFloodInTheMidst(t *testing.T) {
	none := api.Op{Kind: api.OpHead}
	part := long(t, api.Rec{Kind: api.RecCLR, Page: 1, Op: none})
	fails := func(s store) func(n int, r api.Rec) api.Errno {
		return func(n int, r api.Rec) api.Errno {
			wantErr(t, "Compensate", second(s.Compensate(n, r.Page, none, s.at(n))), api.OK)
			return 777
		}
	}
	for what, ahead := range map[string]func(s store) int{
		"a savepoint": func(s store) int {
			wantErr(t, "Rollback", s.Rollback(1, s.at(1)-1, s.inverse), api.OK)
			return 0
		},
		"a part": func(s store) int {
			wantErr(t, "Rollback", s.Rollback(1, 0, fails(s)), 777)
			return part
		},
		"an abort": func(s store) int {
			wantErr(t, "Abort", s.Abort(1, fails(s)), 777)
			return part
		},
	} {
		s := floods(t, 1000)
		taken := ahead(s)
		s.fill(t, 0)
		s.flood(t, 1, func(int) api.Errno { return second(s.Top(1, s.at(1))) })
		undo := func(n int, r api.Rec) api.Errno {
			e := s.most(n, r, taken)
			taken = 0
			return e
		}
		wantErr(t, what+": Abort", s.Abort(1, undo), api.OK)
		s.wantSlots(t, 1, text("a", 200))
		for n := 2; n <= 3; n++ {
			wantErr(t, what+": Abort", s.Abort(n, s.parts), api.OK)
		}
		s.wantKept(t, what, 0)
	}
}

// 9.5: likewise of one that has nothing to be taken back any more, and did not end: its RecEnd has room.
func TestFloodAheadOfEnd(t *testing.T) {
	for changes := 1; changes <= 4; changes++ {
		s := begun(t, frames)
		s.lay(t, 1, "a")
		n := s.begin(t)
		for turn := range changes {
			s.log(t, n, spread(1, turn, 1))
		}
		s.fill(t, 0)
		left := changes
		undo := func(n int, r api.Rec) api.Errno {
			wantErr(t, "inverse", s.inverse(n, r), api.OK)
			if left--; left == 0 {
				return 777
			}
			return api.OK
		}
		wantErr(t, "Abort", s.Abort(n, undo), 777)
		s.flood(t, n, func(int) api.Errno { return second(s.Top(n, 0)) })
		wantErr(t, "Abort", s.Abort(n, s.inverse), api.OK)
		s.wantSlots(t, 1, "a")
		s.wantKept(t, "the end", 0)
	}
}

// 9.5: whoever puts all the compensations that it can, takes not the others' way back.
func TestFloodOfCompensations(t *testing.T) {
	for _, free := range []int{0, 1, topLong, 1000} {
		s := floods(t, free)
		s.lay(t, 20)
		s.flood(t, 2, func(i int) api.Errno {
			return second(s.Compensate(2, 20, api.Op{Kind: api.OpHead, S: text("h", (i+1)%2), Old: text("h", i%2)}, s.at(2)))
		})
		wantErr(t, "Abort", s.Abort(1, s.parts), api.OK)
		s.wantSlots(t, 1, text("a", 200))
		wantErr(t, "Abort", s.Abort(3, s.inverse), api.OK)
		s.wantSlots(t, 3, text("a", 200))
		// What they left of theirs is free now.
		wantErr(t, "Abort", s.Abort(2, s.inverse), api.OK)
		s.wantSlots(t, 2, text("a", 200))
		s.wantKept(t, "the end", 0)
	}
}

// floods is a store with three transactions, each of which did some changes, and so many free bytes.
func floods(t *testing.T, free int) store {
	t.Helper()
	s := begun(t, frames)
	for n := 1; n <= 3; n++ {
		s.lay(t, api.Page(n), text("a", 200))
		s.begin(t)
		for turn := range 5 {
			s.log(t, n, spread(n, turn, 200))
		}
	}
	s.fill(t, free)
	return s
}

// at is where a transaction stands.
func (s store) at(n int) api.LSN {
	at, _ := s.Save(n)
	return at
}

// flood does something until there is no room.
func (s store) flood(t *testing.T, n int, do func(i int) api.Errno) {
	t.Helper()
	for i := range 1000 {
		if e := do(i); e != api.OK {
			wantErr(t, "at last", e, api.ErrLog)
			s.wantFails(t, "again", api.ErrLog, func() (api.LSN, api.Errno) { return 0, do(i) })
			return
		}
	}
	t.Error("there is room for all")
}

// parts takes a record back by changes of nothing, and by its inverse: in all as much as is kept for it.
func (s store) parts(n int, r api.Rec) api.Errno { return s.most(n, r, 0) }

// most is parts of a record for which so much was taken already.
func (s store) most(n int, r api.Rec, taken int) api.Errno {
	back := page.Inverse(r.Op)
	none := api.Op{Kind: api.OpHead}
	room, _ := rec.Long(r)
	last, _ := rec.Long(api.Rec{Kind: api.RecCLR, Page: r.Page, Op: back})
	part, _ := rec.Long(api.Rec{Kind: api.RecCLR, Page: r.Page, Op: none})
	for left := room + undoRoom - last - taken; left >= part; left -= part {
		if _, e := s.Compensate(n, r.Page, none, s.at(n)); e != api.OK {
			return e
		}
	}
	_, e := s.Compensate(n, r.Page, back, r.Prev)
	return e
}

// 9.5: a transaction that spends more than it kept takes what is free, and nothing that is kept for others.
func TestSpendsItsOwn(t *testing.T) {
	s := begun(t, frames)
	s.lay(t, 1, text("a", 100))
	one, two := s.begin(t), s.begin(t)
	s.log(t, one, spread(1, 0, 100))
	others := s.l.Kept() - beginRoom
	for range 50 {
		wantErr(t, "Top", second(s.Top(two, 0)), api.OK)
		if s.l.Kept() < others {
			t.Fatal("kept:", s.l.Kept(), others)
		}
	}
	wantErr(t, "Commit", s.Commit(two), api.OK)
	s.wantKept(t, "the end", others)
	wantErr(t, "Commit", s.Commit(one), api.OK)
	s.wantKept(t, "the end", 0)
}

// 9.5: an undo that takes more room than the change did: what its frame has and 160 are there for it.
func TestUndoTakesMore(t *testing.T) {
	s := begun(t, frames)
	s.lay(t, 1)
	n := s.begin(t)
	for i := range 5 {
		s.log(t, n, keyed(api.Change{Page: 1, Op: api.Op{Kind: api.OpInsert, At: i, S: text("i", 70)}}, text("k", 10)))
	}
	s.fill(t, 0)
	undo := func(tx int, r api.Rec) api.Errno {
		op := api.Op{Kind: api.OpSet, At: r.Op.At, S: text("g", 70), Old: r.Op.S}
		_, e := s.Compensate(tx, r.Page, op, r.Prev)
		return e
	}
	wantErr(t, "Abort", s.Abort(n, undo), api.OK)
	s.wantSlots(t, 1, slices.Repeat([]string{text("g", 70)}, 5)...)
}

// 9.4, 9.5: those that a restart found have no room of their own: they take what there is.
func TestLoadedInFullLog(t *testing.T) {
	s := begun(t, frames)
	s.lay(t, 1, text("a", 100))
	n := s.begin(t)
	s.log(t, n, spread(1, 0, 100))
	s.log(t, n, spread(1, 1, 100))
	// Another manager over the same log, in which all that is left is kept, though not by it.
	s.leave(t, 0)
	again := s
	again.Manager = txn.New(s.p)
	wantErr(t, "Load", again.Load(append(s.All(), api.TxState{Tx: 2, State: api.TxCommitted}), 3), api.OK)
	wantErr(t, "Rollback", again.Rollback(n, 1, again.inverse), api.OK)
	wantErr(t, "Abort", again.Abort(n, again.inverse), api.OK)
	wantErr(t, "Finish", again.Finish(2), api.OK)
	s.wantSlots(t, 1, text("a", 100))
	checkChains(t, s.l)
}

// 9.4: of what is kept for others, those that a restart found take nothing, as long as there is other room; and keep nothing for themselves.
func TestLoadedSpends(t *testing.T) {
	s := begun(t, frames)
	s.lay(t, 1, "a")
	wantErr(t, "Load", s.Load([]api.TxState{{Tx: 1, State: api.TxActive}}, 2), api.OK)
	n := s.begin(t)
	for range 5 {
		wantErr(t, "Top", second(s.Top(1, 0)), api.OK)
		s.wantKept(t, "Top", beginRoom)
	}
	s.leave(t, 0)
	kept := s.l.Kept()
	wantErr(t, "Top", second(s.Top(1, 0)), api.OK)
	s.wantKept(t, "Top without other room", kept-topLong)
	s.l.Give(s.l.Kept() - beginRoom)
	wantErr(t, "Top", second(s.Top(1, 0)), api.OK)
	s.wantKept(t, "Top", beginRoom)
	// A change of it keeps room as any other one does, and takes of that.
	s.log(t, 1, set(1, 0, "a", "b"))
	keeps := long(t, recordOf(1, 0, set(1, 0, "a", "b"))) + undoRoom
	s.wantKept(t, "Log", beginRoom+keeps)
	wantErr(t, "Top", second(s.Top(1, 0)), api.OK)
	s.wantKept(t, "Top", beginRoom+keeps-topLong)
	wantErr(t, "Abort", s.Abort(1, s.inverse), api.OK)
	s.wantKept(t, "the end", beginRoom)
	wantErr(t, "Abort", s.Abort(n, s.inverse), api.OK)
}

// 9.4, R2: a commit for which there is no room wholly changes nothing.
func TestLoadedCommitRoom(t *testing.T) {
	for free, want := range map[int]api.Errno{0: api.ErrLog, markLong: api.ErrLog, 2*markLong - 1: api.ErrLog, 2 * markLong: api.OK} {
		s := begun(t, frames)
		wantErr(t, "Load", s.Load([]api.TxState{{Tx: 1, State: api.TxActive}}, 2), api.OK)
		s.fill(t, free)
		if want == api.OK {
			wantErr(t, "Commit", s.Commit(1), api.OK)
			continue
		}
		s.wantFails(t, "Commit", want, func() (api.LSN, api.Errno) { return 0, s.Commit(1) })
		s.wantFails(t, "Top", api.ErrLog, func() (api.LSN, api.Errno) {
			if free >= topLong {
				return 0, api.ErrLog
			}
			return s.Top(1, 0)
		})
	}
}

// 9.5: a log that was full when the power failed has room for all that must be taken back.
func TestRestartInFullLog(t *testing.T) {
	const many = 4
	s := begun(t, frames)
	sizes := []int{0, 220, 30, 130, 7}
	setup := s.begin(t)
	for n := 1; n <= many; n++ {
		s.log(t, setup, api.Change{Page: api.Page(n), Op: api.Op{Kind: api.OpInsert, S: text("a", sizes[n])}})
	}
	wantErr(t, "Commit", s.Commit(setup), api.OK)
	var ids [many + 1]int
	for n := 1; n <= many; n++ {
		ids[n] = s.begin(t)
	}
	for turn := 0; s.l.Room()-s.l.Kept() > 1000; turn++ {
		for n := 1; n <= many; n++ {
			s.log(t, ids[n], spread(n, turn, sizes[n]))
		}
	}
	wantErr(t, "Abort", s.Abort(ids[1], func(int, api.Rec) api.Errno { return 777 }), 777)
	s.fill(t, 0)
	wantErr(t, "Flush", s.l.Flush(s.l.End()), api.OK)
	s.d.Crash(api.Fall{})
	s.d.Up()
	again := risen(t, s.d)
	if !slices.Equal(again.All(), s.All()) {
		t.Error(again.All(), s.All())
	}
	for n := 1; n <= many; n++ {
		wantErr(t, "Abort", again.Abort(ids[n], again.inverse), api.OK)
		again.wantSlots(t, api.Page(n), text("a", sizes[n]))
	}
	again.wantKept(t, "the end", 0)
	checkChains(t, again.l)
}
