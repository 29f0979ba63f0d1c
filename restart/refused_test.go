package restart_test

import (
	"strings"
	"testing"

	"girder/api"
	"girder/disk"
	"girder/heap"
	"girder/rec"
)

// update is a change of a page that is undone by the page, by a transaction whose record ahead is at prev.
func update(tx int, prev api.LSN, n api.Page, op api.Op) api.Rec {
	return api.Rec{Kind: api.RecUpdate, Tx: tx, Prev: prev, Page: n, Op: op, Undo: api.UndoPage}
}

// wantRefusedAt asks that standing up is refused, in pools of few frames and of many, also where the log is torn, where there is more that would be done, and where a fall is to come.
func wantRefusedAt(t *testing.T, what string, do func(s store), want api.Errno) {
	t.Helper()
	s := fresh(t)
	do(s)
	s.flush(t)
	d := s.falls()
	more := fresh(t)
	// What stands up ahead of what can't: a winner, a loser, and changes that are lacked.
	for i := range 9 {
		more.put(t, more.begin(t), api.Page(20+i), "a")
	}
	more.lay(t, api.Rec{Kind: api.RecCommit, Tx: 5})
	do(more)
	more.flush(t)
	for _, d := range []*disk.Disk{d, more.falls()} {
		wantErr(t, "AppendLog", d.AppendLog("torn"), api.OK)
		for _, frames := range []int{4, 32} {
			wantRefused(t, what, d, frames, want)
			with := d.Clone()
			with.Plan([]api.Fall{{At: d.Calls()}})
			wantRefused(t, what, with, frames, want)
		}
	}
}

// 21.1, R2: a log with a record that can't be read, or whose chains lead elsewhere.
func TestRefusedRecords(t *testing.T) {
	wantRefusedAt(t, "no record", func(s store) { s.layBytes(t, "\xff") }, api.ErrRec)
	wantRefusedAt(t, "a record of which the end is missing", func(s store) { s.layBytes(t, "\x04\x03\x00\x00\x00") }, api.ErrRec)
	// Where undoing goes on, no record begins.
	wantRefusedAt(t, "a compensation to nowhere", func(s store) {
		s.lay(t, api.Rec{Kind: api.RecCLR, Tx: 99, Next: 2, Page: 5, Op: insert("a")})
	}, api.ErrRec)
	wantRefusedAt(t, "a change behind nothing", func(s store) { s.lay(t, update(99, 2, 5, insert("a"))) }, api.ErrRec)
	wantRefusedAt(t, "a change behind another one's", func(s store) {
		at := s.lay(t, api.Rec{Kind: api.RecEnd, Tx: 98})
		s.lay(t, update(99, at, 5, insert("a")))
	}, api.ErrRec)
	wantRefusedAt(t, "a checkpoint that says of one what is not", func(s store) {
		s.lay(t, api.Rec{Kind: api.RecCheck, Txs: []api.TxState{{Tx: 99, State: api.TxActive, Last: 7, Next: 7}}})
	}, api.ErrRec)
	wantRefusedAt(t, "a compensation that leads to itself", func(s store) {
		s.lay(t, api.Rec{Kind: api.RecCLR, Tx: 99, Next: s.l.End(), Page: 5, Op: insert("a")})
	}, api.ErrRec)
}

// 21.1, R2: changes that can't be repeated, and pages that can't be read.
func TestRefusedRedo(t *testing.T) {
	wantRefusedAt(t, "a slot that is not there", func(s store) {
		s.lay(t, update(99, 0, 5, api.Op{Kind: api.OpRemove, At: 3, Old: "a"}))
	}, api.ErrRedo)
	wantRefusedAt(t, "something else stands there, of a winner", func(s store) {
		at := s.lay(t, update(99, 0, 5, insert("a")))
		at = s.lay(t, update(99, at, 5, api.Op{Kind: api.OpSet, S: "c", Old: "b"}))
		s.lay(t, api.Rec{Kind: api.RecCommit, Tx: 99, Prev: at})
	}, api.ErrRedo)
	wantRefusedAt(t, "a page for which there is no room", func(s store) { s.lay(t, update(99, 0, room+1, insert("a"))) }, api.ErrSpace)
	wantRefusedAt(t, "a page beyond all", func(s store) { s.lay(t, update(99, 0, api.MaxPages+1, insert("a"))) }, api.ErrArg)
	for _, n := range []api.Page{5, 1, 2} {
		wantRefusedAt(t, "a page that can't be read", func(s store) {
			s.spoil(t, n)
			s.lay(t, update(99, 0, n, insert("a")))
		}, api.ErrCorrupt)
	}
	// The first pages are looked at, too, where no change of them is lacked.
	for _, n := range []api.Page{1, 2} {
		wantRefusedAt(t, "a first page that can't be read", func(s store) { s.spoil(t, n) }, api.ErrCorrupt)
	}
}

// spoil makes a page unreadable, at its place and at its twin's.
func (s store) spoil(t *testing.T, n api.Page) {
	t.Helper()
	for _, n := range []api.Page{n, n + api.MaxPages} {
		wantErr(t, "Write", s.d.Write(n, strings.Repeat("x", api.PageBytes)), api.OK)
	}
	wantErr(t, "Sync", s.d.Sync(), api.OK)
}

// 21.1, R2: a loser's record that can't be taken back.
func TestRefusedUndo(t *testing.T) {
	wantRefusedAt(t, "two bits of the map", func(s store) {
		s.lay(t, update(99, 0, 1, api.Op{Kind: api.OpPut, At: 9, S: "\x03", Old: "\x00"}))
	}, api.ErrUndo)
	key := api.Rec{Kind: api.RecUpdate, Tx: 99, Page: 5, Op: insert("a"), Undo: api.UndoKey, Index: 5, Entry: api.Entry{Key: "k"}, Live: true}
	wantRefusedAt(t, "an entry of what is no tree", func(s store) { s.lay(t, key) }, api.ErrNode)
	wantRefusedAt(t, "an entry that is not there", func(s store) {
		key := key
		key.Index = int(s.root(t, 1, 2))
		s.lay(t, key)
	}, api.ErrNone)
	// A change that others changed since: that is not to be in any log but one laid by hand.
	wantRefusedAt(t, "something else stands there", func(s store) {
		s.lay(t, update(99, 0, 5, insert("a")))
		s.lay(t, update(98, 0, 5, insert("b")))
		s.lay(t, api.Rec{Kind: api.RecEnd, Tx: 98})
	}, api.ErrOld)
	wantRefusedAt(t, "the first of two", func(s store) {
		at := s.lay(t, update(99, 0, 1, api.Op{Kind: api.OpPut, At: 9, S: "\x03", Old: "\x00"}))
		s.lay(t, update(99, at, 5, insert("a")))
	}, api.ErrUndo)
	// Of a winner nothing is taken back.
	s := fresh(t)
	at := s.lay(t, update(99, 0, 1, api.Op{Kind: api.OpPut, At: 9, S: "\x03", Old: "\x00"}))
	s.lay(t, api.Rec{Kind: api.RecCommit, Tx: 99, Prev: at})
	s.flush(t)
	wantOpen(t, "a winner", s.d, api.Risen{Records: 4, Redone: 1, Winners: 1})
}

// 21.1, R2: more transactions than there may be, which no manager ever had.
func TestRefusedMany(t *testing.T) {
	wantRefusedAt(t, "too many", func(s store) {
		for i := range api.MaxTx + 1 {
			s.lay(t, api.Rec{Kind: api.RecTop, Tx: 100 + i})
		}
	}, api.ErrArg)
	s := fresh(t)
	for i := range api.MaxTx {
		s.lay(t, api.Rec{Kind: api.RecTop, Tx: 100 + i})
	}
	s.flush(t)
	wantOpen(t, "as many as there may be", s.d, api.Risen{Records: 2 + api.MaxTx, Losers: api.MaxTx})
}

// 21.1, R2: no room in the log for what lays the first pages, or no number; with just so much room they are laid.
func TestRefusedBegin(t *testing.T) {
	t.Parallel()
	disk := func(left int) *disk.Disk {
		s := over(t, empty(t, room), frames)
		at := s.lay(t, api.Rec{Kind: api.RecBegin})
		s.lay(t, api.Rec{Kind: api.RecCheck})
		s.flush(t)
		wantErr(t, "SetMaster", s.l.SetMaster(at), api.OK)
		last := over(t, s.d, frames)
		last.fill(t, last.l.Room()-left-endLong-29)
		at = last.lay(t, api.Rec{Kind: api.RecBegin})
		last.lay(t, api.Rec{Kind: api.RecCheck})
		last.flush(t)
		wantErr(t, "SetMaster", last.l.SetMaster(at), api.OK)
		return last.d
	}
	// Kept are 128, and of each change its frame, and as much and 160 more to take it back.
	least := 128 + 160*first
	for _, op := range []api.Op{{Kind: api.OpFormat}, insert(strings.Repeat("\x00", 256)), heap.Format()} {
		at := over(t, empty(t, room), frames)
		at.lay(t, update(1, 0, 1, op))
		least += 2 * (int(at.l.End()) - 1)
	}
	for _, left := range []int{0, 127, 128, least - 1} {
		wantRefused(t, "no room", disk(left), frames, api.ErrLog)
	}
	wantOpen(t, "just room", disk(least), api.Risen{Records: 2, Fresh: true})
	wantRefused(t, "no number", laid(t, api.Rec{Kind: api.RecEnd, Tx: 1<<31 - 1}), frames, api.ErrRec)
}

// 21.1: numbers at the edges: a transaction with the number 0, and the greatest one, as losers.
func TestEdgesOfNumbers(t *testing.T) {
	for _, tx := range []int{0, 1<<31 - 1} {
		s := fresh(t)
		s.lay(t, update(tx, 0, 5, insert("a")))
		s.flush(t)
		s = wantOpen(t, "a loser", s.falls(), api.Risen{Records: 3, Redone: 1, Losers: 1, Undone: 1})
		s.wantSlots(t, 5)
		s, _ = opened(t, s.falls(), frames)
		if n := s.Coming(); n != max(tx, 1)+1 {
			t.Error("Coming:", n)
		}
	}
}

// 21.1, R1: chains that never end, laid by hand: a change that says that it stands ahead of itself, or behind what comes later. Taking back ends when the log has no room.
func TestRefusedRounds(t *testing.T) {
	t.Parallel()
	format := api.Op{Kind: api.OpFormat, At: 9}
	s := fresh(t)
	s.lay(t, update(99, s.l.End(), 5, format))
	s.flush(t)
	wantRefused(t, "itself", s.d, 4, api.ErrLog)
	s = fresh(t)
	long, e := rec.Long(update(99, 0, 5, format))
	wantErr(t, "Long", e, api.OK)
	behind := s.l.End() + api.LSN(long)
	s.lay(t, update(99, behind, 5, format))
	s.lay(t, update(99, s.l.End()-api.LSN(long), 5, format))
	s.flush(t)
	wantRefused(t, "one another", s.d, 4, api.ErrLog)
}
