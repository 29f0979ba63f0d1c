package ckpt_test

import (
	"testing"

	"girder/api"
	"girder/ckpt"
	"girder/undo"
	"girder/wal"
)

// busy is a store with two transactions under way, one of which goes back, of which the log is flushed in part, and a checkpoint or none.
func busy(t *testing.T, taken bool) store {
	t.Helper()
	s := bare(t, 16, 8)
	for n := range api.Page(3) {
		s.lay(t, n+5, "a")
	}
	wantErr(t, "WriteAll", s.p.WriteAll(), api.OK)
	one, other := s.begin(t), s.begin(t)
	s.set(t, one, 5, "a", "b")
	s.set(t, other, 6, "a", "b")
	if taken {
		s.take(t)
	} else {
		wantErr(t, "Flush", s.l.Flush(s.l.End()), api.OK)
	}
	s.set(t, one, 5, "b", "c")
	s.set(t, other, 7, "a", "b")
	s.partly(t, other, 1)
	return s
}

// wantEnds lets the two of busy end: one commits, the other one goes back.
func (s store) wantEnds(t *testing.T) {
	t.Helper()
	s.commit(t, 1)
	wantErr(t, "Abort", undo.Abort(s.Manager, 2), api.OK)
	s.wantSlot(t, 5, "c")
	s.wantSlot(t, 6, "a")
	s.wantSlot(t, 7, "a")
	if s.l.Kept() != 0 {
		t.Error("Kept:", s.l.Kept())
	}
}

// wantFallen asks what a disk has behind a fall at a call of a checkpoint: what was flushed, and what stayed; the master as it was, but where the mark was written and stayed.
func (s store) wantFallen(t *testing.T, was seen, at int, f api.Fall, check string) {
	t.Helper()
	begin := was.end
	end := begin + beginLong + api.LSN(len(check)) + api.FrameBytes
	stay := int(was.flushed) - 1
	switch {
	case at == 1:
		stay = min(stay+max(f.Log, 0), int(end)-1)
	case at > 1:
		stay = int(end) - 1
	}
	master := was.master
	if at == 3 && f.Keep&1 == 1 && f.Torn != 1 {
		master = begin
	}
	has, _ := s.d.ReadLog()
	if len(has) != stay {
		t.Errorf("the disk's log has %d bytes, not %d", len(has), stay)
	}
	l, torn, e := wal.Open(s.d.Clone())
	if e != api.OK || l.Master() != master {
		t.Fatalf("wal.Open: %d; the master is %d, not %d", e, l.Master(), master)
	}
	if whole := int(l.End()) - 1; whole+torn != stay || torn > 0 && at != 1 {
		t.Errorf("%d bytes are whole, %d torn, of %d", whole, torn, stay)
	}
	// What stayed are the records that were put, up to the checkpoint's.
	for _, x := range records(t, l, 1) {
		want, _, _ := s.l.Get(x.at)
		if is, _, _ := l.Get(x.at); is != want {
			t.Errorf("at %d: %x, not %x", x.at, is, want)
		}
	}
	if at > 1 {
		s.wantStands(t, l, begin, check)
	}
}

// 18.1: the power fails at each call of the disk in the midst, whatever stays of what is loose: ErrDead, the manager and its pages as they were, the master as it was. When the power is back all goes on, in this manager and in one that is opened anew.
func TestFallAtEachCall(t *testing.T) {
	var falls []api.Fall
	for _, long := range []int{-1, 0, 1, setLong, 200, 224, 225, 226, 300, api.MaxLog} {
		falls = append(falls, api.Fall{Log: long}, api.Fall{Log: long, Keep: 1}, api.Fall{Log: long, Keep: ^uint64(0), Torn: 1, Bytes: long})
	}
	for at := range calls {
		for _, f := range falls {
			for _, taken := range []bool{false, true} {
				s := busy(t, taken)
				was := s.look()
				check := recCheck(s.Coming()-1, s.All(), s.p.Dirty())
				f.At = s.d.Calls() + at
				s.d.Plan([]api.Fall{f})
				if n, e := ckpt.Take(s.Manager); n != 0 || e != api.ErrDead {
					t.Errorf("Take: %d, %d", n, e)
				}
				if !s.d.Dead() || s.d.Calls() != was.calls+at {
					t.Error("Dead, Calls:", s.d.Dead(), s.d.Calls()-was.calls)
				}
				s.d.Up()
				s.wantStays(t, "Take", was)
				s.wantFallen(t, was, at, f, check)
				anew := over(t, s.d.Clone(), 8)
				anew.take(t)
				s.take(t)
				s.wantEnds(t)
				if t.Failed() {
					t.Fatalf("a fall at the call %d, %+v; one was taken: %t", at, f, taken)
				}
			}
		}
	}
}

// 18.1: the power fails again and again.
func TestFallUponFall(t *testing.T) {
	for first := range calls {
		for second := range calls {
			for third := range calls {
				s := busy(t, first%2 == 0)
				was, from := s.look(), s.d.Calls()
				s.d.Plan([]api.Fall{
					{At: from + first, Log: 30 * first, Keep: uint64(second)},
					{At: from + first + second, Log: 90 * second, Keep: uint64(third)},
					{At: from + first + second + third, Log: 170, Keep: uint64(first)},
				})
				for range 3 {
					if at, e := ckpt.Take(s.Manager); at != 0 || e != api.ErrDead {
						t.Fatalf("Take: %d, %d", at, e)
					}
					s.wantRefused(t, api.ErrDead)
					s.d.Up()
					s.wantStays(t, "Take", was)
				}
				s.take(t)
				s.wantEnds(t)
			}
		}
	}
}

// 18.1, R2: when the power is off already nothing is changed, and nothing is put into the log.
func TestDead(t *testing.T) {
	for _, taken := range []bool{false, true} {
		s := busy(t, taken)
		was := s.look()
		s.d.Crash(api.Fall{})
		for range 3 {
			s.wantRefused(t, api.ErrDead)
			s.wantRoom(t, true)
		}
		s.d.Up()
		s.wantSame(t, "Take on a dead disk", was)
		s.take(t)
		s.wantEnds(t)
	}
}

// 18.1: the disk has no room for the log, as somebody else put bytes there: the log's error; nothing is flushed, and the master is as it was.
func TestForeignBytes(t *testing.T) {
	for _, taken := range []bool{false, true} {
		s := busy(t, taken)
		was := s.look()
		own := len(was.bytes)
		wantErr(t, "AppendLog", s.d.AppendLog(string(make([]byte, api.MaxLog-own-10))), api.OK)
		wantErr(t, "SyncLog", s.d.SyncLog(), api.OK)
		for range 2 {
			if at, e := ckpt.Take(s.Manager); at != 0 || e != api.ErrSpace {
				t.Errorf("Take: %d, %d", at, e)
			}
			s.wantStays(t, "Take", was)
			if is := s.look(); is.flushed != was.flushed || is.master != was.master || is.mark != was.mark {
				t.Errorf("Flushed, Master, Mark: %d, %d, %d", is.flushed, is.master, is.mark)
			}
		}
		wantErr(t, "CutLog", s.d.CutLog(own), api.OK)
		s.take(t)
		s.wantEnds(t)
	}
}

// 18.1: at a fall behind it the checkpoint is there, whatever stays.
func TestFallBehind(t *testing.T) {
	for _, f := range []api.Fall{{}, {Keep: ^uint64(0), Log: api.MaxLog}, {Torn: 1, Bytes: 3, Log: 5}} {
		s := busy(t, true)
		check := recCheck(s.Coming()-1, s.All(), s.p.Dirty())
		at := s.take(t)
		s.set(t, 1, 5, "c", "d")
		s.d.Crash(f)
		s.d.Up()
		l, torn, e := wal.Open(s.d)
		if torn != 0 || e != api.OK || l.Master() != at {
			t.Fatal("wal.Open:", torn, e, l.Master())
		}
		s.wantStands(t, l, at, check)
	}
}
