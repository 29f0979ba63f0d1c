package wal_test

import (
	"math"
	"strings"
	"testing"

	"girder/api"
	"girder/disk"
	"girder/wal"
)

// 5.3: a Flush of each LSN: of 0, of records, of places within them, of the end and above.
func TestFlushOfEachPlace(t *testing.T) {
	records := []string{"a", "bcd", pattern(1, 20), "e"}
	end := api.LSN(len(laid(records...)) + 1)
	for flushed := range len(records) + 1 {
		first := api.LSN(len(laid(records[:flushed]...)) + 1)
		places := []api.LSN{1 << 32, math.MaxUint64}
		for at := range end + 20 {
			places = append(places, at)
		}
		for _, to := range places {
			d, l := begun(t, flushed, records...)
			calls, stay, made := d.Calls(), flushed, 0
			if flushed < len(records) && to >= first {
				stay, made = len(records), 2
			}
			wantErr(t, "Flush", l.Flush(to), api.OK)
			wantAll(t, l, stay, 0, records...)
			wantDisk(t, d, laid(records[:stay]...))
			if n := d.Calls() - calls; n != made {
				t.Errorf("%d calls, not %d", n, made)
			}
			if _, loose := d.Loose(); loose != 0 {
				t.Errorf("%d bytes loose", loose)
			}
			if t.Failed() {
				t.Fatalf("%d flushed, Flush(%d)", flushed, to)
			}
		}
	}
}

// 5.3: in an empty log there is nothing to flush.
func TestFlushOfNothing(t *testing.T) {
	d, l := begun(t, 0)
	for _, to := range []api.LSN{0, 1, 2, math.MaxUint64} {
		wantErr(t, "Flush", l.Flush(to), api.OK)
	}
	wantAll(t, l, 0, 0)
	if d.Calls() != 0 {
		t.Error("calls:", d.Calls())
	}
}

// 5.3: what is flushed stays whatever falls; what is not is in memory alone.
func TestFlushedStays(t *testing.T) {
	for _, stay := range []int{-1, 0, 5, math.MaxInt} {
		d, l := begun(t, 2, "a", "b", "c")
		d.Crash(api.Fall{Log: stay})
		d.Up()
		wantAll(t, opened(t, d), 2, 0, "a", "b")
		wantAll(t, l, 2, 0, "a", "b", "c")
	}
}

// 5.3: with an error of the disk that is not ErrDead nothing is flushed, and the tail stays; it goes when there is room.
func TestFlushWithoutSpace(t *testing.T) {
	d, l := begun(t, 1, "a", "bc", "d")
	wantErr(t, "Keep", l.Keep(9), api.OK)
	full := strings.Repeat("x", api.MaxLog-len(laid("a"))-len(laid("bc", "d"))+1)
	wantErr(t, "AppendLog", d.AppendLog(full), api.OK)
	wantErr(t, "SyncLog", d.SyncLog(), api.OK)
	calls := d.Calls()
	for range 3 {
		wantErr(t, "Flush", l.Flush(14), api.ErrSpace)
		wantAll(t, l, 1, 9, "a", "bc", "d")
		wantErr(t, "SetMaster", l.SetMaster(14), api.ErrPlace)
	}
	wantErr(t, "Flush of what is flushed", l.Flush(1), api.OK)
	wantDisk(t, d, laid("a")+full)
	if d.Calls() != calls {
		t.Error("calls:", d.Calls()-calls)
	}
	put(t, l, "e")
	wantErr(t, "CutLog", d.CutLog(len(laid("a"))), api.OK)
	wantErr(t, "Flush", l.Flush(14), api.OK)
	wantAll(t, l, 4, 9, "a", "bc", "d", "e")
	wantDisk(t, d, laid("a", "bc", "d", "e"))
}

// 5.3: on a dead disk Flush answers ErrDead, and changes nothing; what is in memory can be told.
func TestFlushDead(t *testing.T) {
	d, l := begun(t, 1, "a", "bc")
	d.Crash(api.Fall{})
	wantErr(t, "Flush", l.Flush(14), api.ErrDead)
	wantErr(t, "Flush of all", l.Flush(math.MaxUint64), api.ErrDead)
	wantErr(t, "Flush of what is flushed", l.Flush(1), api.OK)
	wantAll(t, l, 1, 0, "a", "bc")
	put(t, l, "d")
	wantErr(t, "Keep", l.Keep(3), api.OK)
	wantAll(t, l, 1, 3, "a", "bc", "d")
	wantErr(t, "SetMaster", l.SetMaster(1), api.ErrDead)
	wantErr(t, "SetMaster", l.SetMaster(14), api.ErrPlace)
	if l.Master() != 0 {
		t.Error("Master:", l.Master())
	}
	d.Up()
	wantDisk(t, d, laid("a"))
	wantErr(t, "Flush", l.Flush(14), api.OK)
	wantDisk(t, d, laid("a", "bc", "d"))
}

// play puts records and flushes now and then, until the power fails: the records that were put, and how many of them were flushed.
func play(t *testing.T, l *wal.Log) ([]string, int) {
	t.Helper()
	var records []string
	flushed := 0
	for i := range 12 {
		s := pattern(i, 1+i*7%30)
		put(t, l, s)
		records = append(records, s)
		if i%3 != 2 {
			continue
		}
		if e := l.Flush(l.End()); e != api.OK {
			wantErr(t, "Flush", e, api.ErrDead)
			return records, flushed
		}
		flushed = len(records)
		if e := l.SetMaster(1); e != api.OK {
			wantErr(t, "SetMaster", e, api.ErrDead)
			return records, flushed
		}
	}
	return records, flushed
}

// 5.5: the power fails at each call, and of what is under way each number of bytes stays: Open has all that was flushed, and some of what was under way, from the front on.
func TestFallAtEachCall(t *testing.T) {
	const calls = 16
	for at := range calls + 1 {
		for stay := range 150 {
			d := fresh(t)
			d.Plan([]api.Fall{{At: at, Log: stay, Keep: 1}})
			l := opened(t, d)
			records, flushed := play(t, l)
			wantAll(t, l, flushed, 0, records...)
			if d.Dead() != (at < calls) {
				t.Fatalf("%d: dead: %v", at, d.Dead())
			}
			d.Up()
			d.Plan(nil)
			has, _ := d.ReadLog()
			if !strings.HasPrefix(laid(records...), has) {
				t.Fatalf("%d, %d: the disk has other bytes", at, stay)
			}
			whole := flushed
			for whole < len(records) && len(laid(records[:whole+1]...)) <= len(has) {
				whole++
			}
			m, torn, e := wal.Open(d)
			if e != api.OK || torn != len(has)-len(laid(records[:whole]...)) {
				t.Fatalf("%d, %d: %d torn, %d", at, stay, torn, e)
			}
			wantAll(t, m, whole, 0, records[:whole]...)
			if flushed > 0 && at > 3 && m.Master() != 1 {
				t.Errorf("Master: %d", m.Master())
			}
			put(t, m, "on")
			wantErr(t, "Flush", m.Flush(m.End()), api.OK)
			d.Crash(api.Fall{})
			d.Up()
			wantAll(t, opened(t, d), whole+1, 0, append(records[:whole:whole], "on")...)
			if t.Failed() {
				t.Fatalf("a fall at %d, of which %d bytes stay", at, stay)
			}
		}
	}
}

// 5.3, 5.5: a log whose Flush was cut off goes on when the power is back: what it then says is flushed Open has, whatever had stayed.
func TestGoOnBehindAFall(t *testing.T) {
	whole := len(laid("a", "bc", "def")) - len(laid("a"))
	for _, later := range []string{"", "later"} {
		for stay := -1; stay <= whole+1; stay++ {
			for at := range 2 {
				d, l := begun(t, 1, "a", "bc", "def")
				records := []string{"a", "bc", "def"}
				d.Plan([]api.Fall{{At: d.Calls() + at, Log: stay}, {At: d.Calls() + at + 1, Log: stay - 3}})
				wantErr(t, "Flush", l.Flush(14), api.ErrDead)
				wantAll(t, l, 1, 0, records...)
				wantErr(t, "Flush when it is dead", l.Flush(14), api.ErrDead)
				if later != "" {
					put(t, l, later)
					records = append(records, later)
				}
				for range 2 {
					d.Up()
					if e := l.Flush(14); e != api.OK {
						wantErr(t, "Flush again", e, api.ErrDead)
					}
				}
				d.Up()
				wantErr(t, "Flush at last", l.Flush(14), api.OK)
				wantAll(t, l, len(records), 0, records...)
				d.Crash(api.Fall{})
				d.Up()
				wantDisk(t, d, laid(records...))
				wantAll(t, opened(t, d), len(records), 0, records...)
				put(t, l, "and on")
				wantErr(t, "Flush of more", l.Flush(l.End()), api.OK)
				wantDisk(t, d, laid(append(records, "and on")...))
				if t.Failed() {
					t.Fatalf("a fall at its call %d, of which %d bytes stay", at, stay)
				}
			}
		}
	}
}

// 5.3: a Flush that was cut off, on a disk whose log somebody else changed since: no panic, and nothing is said to be flushed that was not put there.
func TestGoOnWithAnotherLog(t *testing.T) {
	for _, other := range []string{"", "x", laid("a") + "x", laid("a", "bc", "def", "more"), strings.Repeat("y", 200)} {
		d, l := begun(t, 1, "a", "bc", "def")
		d.Plan([]api.Fall{{At: d.Calls() + 1, Log: 5}})
		wantErr(t, "Flush", l.Flush(14), api.ErrDead)
		d.Up()
		d.CutLog(0)
		d.AppendLog(other)
		wantErr(t, "Flush", l.Flush(14), api.OK)
		wantAll(t, l, 3, 0, "a", "bc", "def")
		wantDisk(t, d, other+laid("a", "bc", "def")[len(laid("a")):])
	}
}

func wantMaster(t *testing.T, l *wal.Log, want api.LSN) {
	t.Helper()
	if n := l.Master(); n != want {
		t.Errorf("Master: %d, not %d", n, want)
	}
}

// markOf is the disk's mark.
func markOf(t *testing.T, d *disk.Disk) uint64 {
	t.Helper()
	n, e := d.Mark()
	wantErr(t, "Mark", e, api.OK)
	return n
}

// 5.4: SetMaster of each place: of flushed records alone.
func TestSetMaster(t *testing.T) {
	records := []string{"a", "bcd", pattern(1, 20), "e"}
	d, l := begun(t, 3, records...)
	wantMaster(t, l, 0)
	good := map[api.LSN]bool{1: true, 14: true, 29: true}
	last, calls := api.LSN(0), d.Calls()
	for at := range l.End() + 20 {
		want := api.ErrPlace
		if good[at] {
			want, last, calls = api.OK, at, calls+2
		}
		wantErr(t, "SetMaster", l.SetMaster(at), want)
		wantMaster(t, l, last)
		if d.Calls() != calls || markOf(t, d) != uint64(last) {
			t.Fatalf("SetMaster(%d): %d calls, not %d; the mark is %d", at, d.Calls(), calls, markOf(t, d))
		}
	}
	wantErr(t, "SetMaster of the greatest", l.SetMaster(math.MaxUint64), api.ErrPlace)
	wantErr(t, "SetMaster back", l.SetMaster(1), api.OK)
	wantMaster(t, l, 1)
	wantErr(t, "Flush", l.Flush(l.End()), api.OK)
	wantErr(t, "SetMaster of the last", l.SetMaster(61), api.OK)
	wantMaster(t, l, 61)
	if w, _ := d.Loose(); w != 0 {
		t.Error("loose:", w)
	}
	d.Crash(api.Fall{})
	d.Up()
	wantMaster(t, opened(t, d), 61)
	wantAll(t, l, 4, 0, records...)
}

// 5.4: the power fails as the master is set: ahead of SetMark it is the old one, ahead of Sync what stays says.
func TestSetMasterFalls(t *testing.T) {
	for at := range 2 {
		for keep := range uint64(2) {
			d, l := begun(t, 2, "a", "bcd")
			wantErr(t, "SetMaster", l.SetMaster(1), api.OK)
			d.Plan([]api.Fall{{At: d.Calls() + at, Keep: keep}})
			wantErr(t, "SetMaster", l.SetMaster(14), api.ErrDead)
			wantMaster(t, l, 0)
			d.Up()
			want := api.LSN(1)
			if at == 1 && keep == 1 {
				want = 14
			}
			wantMaster(t, opened(t, d), want)
			wantMaster(t, l, want)
		}
	}
}

// 5.4: a mark that is of no record here says nothing.
func TestMasterOfMarks(t *testing.T) {
	for _, c := range []struct {
		mark uint64
		want api.LSN
	}{
		{0, 0}, {1, 1}, {2, 0}, {13, 0}, {14, 14}, {15, 0}, {28, 0}, {29, 0}, {1 << 32, 0}, {1<<32 + 1, 0}, {1<<63 + 14, 0}, {math.MaxUint64, 0},
	} {
		d := holding(t, laid("a", "bcd")+"torn")
		d.SetMark(c.mark)
		l, _, e := wal.Open(d)
		wantErr(t, "Open", e, api.OK)
		wantMaster(t, l, c.want)
		wantAll(t, l, 2, 0, "a", "bcd")
		if markOf(t, d) != c.mark {
			t.Error("the mark:", markOf(t, d))
		}
	}
	d, l := begun(t, 0)
	for _, mark := range []uint64{0, 1, 2} {
		d.SetMark(mark)
		wantMaster(t, l, 0)
	}
}
