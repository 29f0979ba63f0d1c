package ckpt_test

import (
	"testing"

	"girder/api"
	"girder/ckpt"
	"girder/undo"
)

// crowd is a store with so many transactions, each with a change of a page of its own, and so many pages that are dirty: how many bytes a checkpoint of it has.
func crowd(t *testing.T, txs, dirty int) (store, int) {
	t.Helper()
	s := bare(t, 300, api.MaxFrames)
	for i := range txs {
		s.lay(t, api.Page(i+1), "a")
	}
	wantErr(t, "WriteAll", s.p.WriteAll(), api.OK)
	for i := range txs {
		n := s.begin(t)
		if i < dirty {
			s.set(t, n, api.Page(i+1), "a", "b")
		}
	}
	for i := txs; i < dirty; i++ {
		s.lay(t, api.Page(i+1), "a")
	}
	if len(s.All()) != txs || len(s.p.Dirty()) != dirty {
		t.Fatal("All, Dirty:", len(s.All()), len(s.p.Dirty()))
	}
	return s, beginLong + checkLong + txLong*txs + dirtyLong*dirty
}

// 18.1: in a log with just room for both frames beside what is kept, with more and with less: too little for the first record, for the second one. What is kept is kept, and Room is in step with Take.
func TestRoom(t *testing.T) {
	for _, c := range []struct{ txs, dirty int }{{0, 0}, {1, 0}, {1, 1}, {0, 3}, {api.MaxTx, 0}, {5, 40}, {api.MaxTx, api.MaxFrames}} {
		_, need := crowd(t, c.txs, c.dirty)
		for _, free := range []int{0, 1, beginLong - 1, beginLong, beginLong + 1, need - beginLong, need - 1} {
			s, _ := crowd(t, c.txs, c.dirty)
			s.leave(t, free)
			s.wantNoRoom(t)
		}
		for _, more := range []int{0, 1, 2, 100, need} {
			s, _ := crowd(t, c.txs, c.dirty)
			s.leave(t, need+more)
			s.wantLeft(t, more)
			s.wantRoom(t, more >= need)
		}
		if t.Failed() {
			t.Fatalf("%d transactions, %d pages", c.txs, c.dirty)
		}
	}
}

// 18.1: likewise in a log that is full of records, not of what is kept.
func TestRoomBehindRecords(t *testing.T) {
	for _, c := range []struct{ txs, dirty int }{{0, 0}, {5, 40}} {
		_, need := crowd(t, c.txs, c.dirty)
		for _, free := range []int{0, beginLong - 1, beginLong, need - 1} {
			s, _ := crowd(t, c.txs, c.dirty)
			s.fill(t, free)
			s.wantNoRoom(t)
		}
		for _, more := range []int{0, 1} {
			s, _ := crowd(t, c.txs, c.dirty)
			s.fill(t, need+more)
			s.wantLeft(t, more)
		}
	}
}

// wantNoRoom asks that there is no room for a checkpoint.
func (s store) wantNoRoom(t *testing.T) {
	t.Helper()
	s.wantRoom(t, false)
	s.wantRefused(t, api.ErrLog)
	s.wantRoom(t, false)
}

// wantLeft takes a checkpoint, and asks for what is left behind it, beside what was kept.
func (s store) wantLeft(t *testing.T, left int) {
	t.Helper()
	kept := s.l.Kept()
	s.take(t)
	if s.l.Kept() != kept || s.l.Room()-kept != left {
		t.Errorf("Kept, Room: %d, %d; %d was kept, not %d left", s.l.Kept(), s.l.Room(), kept, left)
	}
}

// 18.1: each number of bytes that are free, from none to just enough and one more.
func TestEachRoom(t *testing.T) {
	_, need := crowd(t, 2, 3)
	for free := range need + 2 {
		s, _ := crowd(t, 2, 3)
		s.leave(t, free)
		if free < need {
			s.wantRefused(t, api.ErrLog)
			continue
		}
		s.take(t)
	}
}

// 18.1: room that was kept is none, and is room again when it is given back.
func TestGivenBack(t *testing.T) {
	s, need := crowd(t, 1, 1)
	s.fill(t, need+500)
	wantErr(t, "Keep", s.l.Keep(501), api.OK)
	s.wantRefused(t, api.ErrLog)
	s.l.Give(1)
	s.take(t)
	s.l.Give(500)
	s.wantRoom(t, 500 >= need)
	// What a transaction kept, too, when it has ended.
	s.fill(t, 50)
	s.wantRefused(t, api.ErrLog)
	s.commit(t, 1)
	s.take(t)
}

// 9.5, T4: behind the last checkpoint for which there was room all can go back.
func TestGoBackInFullLog(t *testing.T) {
	s, need := crowd(t, api.MaxTx, api.MaxTx)
	s.fill(t, need)
	s.take(t)
	s.wantRefused(t, api.ErrLog)
	for n := range api.MaxTx {
		wantErr(t, "Abort", undo.Abort(s.Manager, n+1), api.OK)
		s.wantSlot(t, api.Page(n+1), "a")
	}
	if s.l.Kept() != 0 {
		t.Error("Kept:", s.l.Kept())
	}
	s.take(t)
}

// 18.1: of a log that is full to its last byte.
func TestFullLog(t *testing.T) {
	s := bare(t, room, frames)
	s.fill(t, beginLong+checkLong)
	at := s.take(t)
	if s.l.Room() != 0 || at != api.MaxLog-beginLong-checkLong+1 {
		t.Error("Room, Take:", s.l.Room(), at)
	}
	s.wantRefused(t, api.ErrLog)
	s.wantRoom(t, false)
	if s.l.Master() != at {
		t.Error("Master:", s.l.Master())
	}
}

// 18.1, R2: the room comes ahead of the power.
func TestFullAndDead(t *testing.T) {
	s, need := crowd(t, 2, 2)
	s.leave(t, need-1)
	s.d.Crash(api.Fall{})
	s.wantRefused(t, api.ErrLog)
	s.l.Give(1)
	s.wantRefused(t, api.ErrDead)
	s.wantRoom(t, true)
	s.d.Up()
	if _, e := ckpt.Take(s.Manager); e != api.OK {
		t.Error("Take:", e)
	}
}
