package heap_test

import (
	"strings"
	"testing"

	"girder/api"
	"girder/heap"
	"girder/rec"
)

// filler is what records begin with that only fill the log: no record of the program does.
const filler = "\xff"

// undoRoom is what is kept for a change that can be undone, beside as many bytes as its frame has.
const undoRoom = 160

// leave keeps so much of the log that just so many bytes are free.
func (s store) leave(t *testing.T, free int) {
	t.Helper()
	wantErr(t, "Keep", s.l.Keep(s.l.Room()-s.l.Kept()-free), api.OK)
}

// fill puts records into the log until just so many bytes are free beside what is kept.
func (s store) fill(t *testing.T, free int) {
	t.Helper()
	const least = api.FrameBytes + 1
	for left := s.l.Room() - s.l.Kept() - free; left >= least; left = s.l.Room() - s.l.Kept() - free {
		n := min(left, api.FrameBytes+api.MaxRecord)
		if rest := left - n; rest > 0 && rest < least {
			n -= least
		}
		_, e := s.l.Append(strings.Repeat(filler, n-api.FrameBytes))
		wantErr(t, "Append", e, api.OK)
	}
}

// needs is how many bytes of the log changes take, and keep.
func needs(t *testing.T, l ...api.Change) int {
	t.Helper()
	need := 0
	for _, c := range l {
		n, e := rec.Long(api.Rec{Kind: api.RecUpdate, Tx: 1, Page: c.Page, Op: c.Op, Undo: c.Undo})
		wantErr(t, "Long", e, api.OK)
		need += n
		if c.Undo != api.UndoNone {
			need += n + undoRoom
		}
	}
	return need
}

// R2, 10.1 to 10.3: each call at just the room that its changes need, and with less: there it changes nothing at all, though a part of it would have had room.
func TestLogRoom(t *testing.T) {
	_, first, live, gone, next := filled(t)
	link := undoable(4, api.Op{Kind: api.OpHead, S: "\x05\x00\x00\x00", Old: "\x00\x00\x00\x00"})
	for what, need := range map[string]int{
		"Allocate":          needs(t, turns(0, 0x0f, 0x1f)),
		"Release":           needs(t, turns(0, 0x0f, 0x0b)),
		"Create":            needs(t, turns(0, 0x0f, 0x1f), formatted(5)),
		"Extend":            needs(t, turns(0, 0x0f, 0x1f), formatted(5), link),
		"Put at the next":   needs(t, lays(next), sets(next, slot(0, ""), slot(1, "x"))),
		"Put where one was": needs(t, sets(gone, slot(0, "gone"), slot(1, "x"))),
		"Delete":            needs(t, sets(live, slot(1, "live"), slot(0, "live"))),
		"Update":            needs(t, sets(live, slot(1, "live"), slot(1, "x"))),
	} {
		for free := need; free >= 0; free -= 1 + free/10 {
			s, first, live, gone, next := filled(t)
			n := s.begin(t)
			s.leave(t, free)
			call := s.calls(n, first, live, gone, next)[what]
			if free < need {
				s.wantFails(t, what, api.ErrLog, call)
			} else {
				wantErr(t, what, call(), api.OK)
			}
			if t.Failed() {
				t.Fatalf("%s: %d bytes free of %d", what, free, need)
			}
		}
		s, _, _, _, _ := filled(t)
		n := s.begin(t)
		s.fill(t, need-1)
		s.wantFails(t, what, api.ErrLog, s.calls(n, first, live, gone, next)[what])
		s, _, _, _, _ = filled(t)
		n = s.begin(t)
		s.fill(t, need)
		wantErr(t, what, s.calls(n, first, live, gone, next)[what](), api.OK)
	}
}

// 10.4, T4: however full the log is, what was done goes back, by all who are under way.
func TestBackInFullLog(t *testing.T) {
	for free := 0; free < 1000; free += 47 {
		s, first, live, gone, next := filled(t)
		was := s.look(t)
		a, b := s.begin(t), s.begin(t)
		wantErr(t, "Update", heap.Update(s.Manager, a, live, long(60)), api.OK)
		wantErr(t, "Put", heap.Put(s.Manager, b, gone, long(59)), api.OK)
		wantErr(t, "Put", heap.Put(s.Manager, b, next, long(58)), api.OK)
		s.create(t, a)
		s.fill(t, free)
		// They do what they can, each as long as there is room.
		for heap.Put(s.Manager, a, api.RID{Page: 4}, "x") == api.OK && heap.Delete(s.Manager, a, api.RID{Page: 4}) == api.OK {
		}
		for heap.Update(s.Manager, b, next, "y") == api.OK {
		}
		// By turns, so that what one spends might be the other one's.
		s.abort(t, b)
		s.abort(t, a)
		s.wantTaken(t, 1, 2, 3, 4)
		s.wantScan(t, first, api.Stored{RID: live, Row: "live"})
		s.wantPage(t, heapSheet(3, 4, slot(1, "live"), slot(0, "gone"), slot(0, "")))
		s.wantPage(t, was.pages[4])
		if s.l.Kept() != 0 || len(s.All()) != 0 {
			t.Errorf("kept: %d, under way: %v", s.l.Kept(), s.All())
		}
		if t.Failed() {
			t.Fatal("free:", free)
		}
	}
}
