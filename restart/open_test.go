package restart_test

import (
	"math"
	"strings"
	"testing"

	"girder/api"
	"girder/catalog"
	"girder/disk"
	"girder/heap"
	"girder/restart"
	"girder/wal"
)

// 21.1, R1: a nil disk, whatever else is handed in.
func TestNilDisk(t *testing.T) {
	for _, frames := range []int{-1, 0, 3, 4, 256, 257} {
		if m, r, e := restart.Open(nil, frames, []int{1}); m != nil || r != (api.Risen{}) || e != api.ErrArg {
			t.Errorf("%d frames: %v, %+v, %d", frames, m, r, e)
		}
	}
}

// disks is disks in many states, each made anew.
func disks(t *testing.T) map[string]*disk.Disk {
	t.Helper()
	all := map[string]*disk.Disk{"empty": empty(t, room), "torn": torn(t, 7), "begun": fresh(t).d}
	s := fresh(t)
	s.put(t, s.begin(t), 5, "a")
	s.flush(t)
	all["with a loser"] = s.falls()
	loose := fresh(t)
	loose.put(t, loose.begin(t), 5, "a")
	wantErr(t, "AppendLog", loose.d.AppendLog("abc"), api.OK)
	wantErr(t, "Write", loose.d.Write(9, strings.Repeat("x", api.PageBytes)), api.OK)
	wantErr(t, "SetMark", loose.d.SetMark(1), api.OK)
	all["with loose writes"] = loose.d
	return all
}

// 21.1: frames that may not be, each bound and one beyond it. Also of a disk whose log is torn, or to which a fall is to come at its next call: nothing is changed.
func TestFrames(t *testing.T) {
	for what, d := range disks(t) {
		for _, frames := range []int{3, 257, 2, 0, -1, -4, 1 << 20, math.MaxInt, math.MinInt} {
			wantRefused(t, what, d, frames, api.ErrArg)
			with := d.Clone()
			with.Plan([]api.Fall{{At: d.Calls()}})
			wantRefused(t, what+" with a fall to come", with, frames, api.ErrArg)
		}
		for _, frames := range []int{4, 5, 255, 256} {
			opened(t, d.Clone(), frames)
		}
	}
}

// 21.1: a disk whose power is off: that is told, also where the frames may not be, and nothing is changed; when the power is back it stands up.
func TestDead(t *testing.T) {
	for what, d := range disks(t) {
		up := d.Clone()
		for _, x := range []*disk.Disk{d, up} {
			x.Crash(api.Fall{Keep: 5, Log: 2})
		}
		for _, frames := range []int{8, 4, 256, 3, 257, -1} {
			wantRefused(t, what, d, frames, api.ErrDead)
		}
		d.Up()
		up.Up()
		if seen(d) != seen(up) {
			t.Error(what, "was changed")
		}
		opened(t, d, 8)
	}
}

// 21.1: the chapter's example: an empty disk, and once more, and once more behind a fall; on disks of the least room and of the greatest.
func TestEmpty(t *testing.T) {
	for _, room := range []int{8, room, api.MaxPages} {
		for _, frames := range []int{4, 256} {
			d := empty(t, room)
			s, r := opened(t, d, frames)
			if r != (api.Risen{Fresh: true}) {
				t.Errorf("%+v", r)
			}
			if begun, e := catalog.Begun(s.Manager); !begun || e != api.OK {
				t.Error("Begun:", begun, e)
			}
			if l, e := catalog.All(s.Manager); len(l) > 0 || e != api.OK {
				t.Error("All:", l, e)
			}
			s.flush(t)
			s, r = opened(t, d, frames)
			if r != (api.Risen{Records: 5, Redone: first}) {
				t.Errorf("again: %+v", r)
			}
			s.write(t)
			s, r = opened(t, s.falls(), frames)
			if r != (api.Risen{Records: 5, Stood: first}) {
				t.Errorf("behind a fall: %+v", r)
			}
			if at := s.l.Master(); at != 0 {
				t.Error("a checkpoint where there were no transactions:", at)
			}
		}
	}
}

// 21.1: what is first laid is not laid again, whatever became of the pages on the disk; the first table has the number 1 and begins at page 3, behind that, too.
func TestNotFresh(t *testing.T) {
	s, _ := opened(t, empty(t, room), frames)
	n := s.begin(t)
	a, e := catalog.Create(s.Manager, n, "a", 2)
	if a.ID != 1 || a.First != 3 || e != api.OK {
		t.Error(a, e)
	}
	wantErr(t, "Commit", s.Commit(n), api.OK)
	for _, write := range [][]api.Page{nil, {1}, {2}, {1, 2}, {3}} {
		x := over(t, s.d.Clone(), frames)
		other, _ := opened(t, x.d, frames)
		for _, n := range write {
			wantErr(t, "Write", other.p.Write(n), api.OK)
		}
		other, r := opened(t, other.falls(), frames)
		if r.Fresh {
			t.Errorf("written %v: %+v", write, r)
		}
		if l, e := catalog.All(other.Manager); len(l) != 1 || l[0].Name != "a" || e != api.OK {
			t.Error("All:", l, e)
		}
	}
}

// 21.1: a store of which one of the two first pages is not there, or is another kind of page, is begun.
func TestHalfFresh(t *testing.T) {
	heapPage := heap.Format()
	for what, l := range map[string][]api.Rec{
		"no catalog": {
			{Kind: api.RecUpdate, Tx: 7, Page: 1, Op: api.Op{Kind: api.OpFormat, At: api.KindMap}, Undo: api.UndoPage},
			{Kind: api.RecUpdate, Tx: 7, Prev: 1, Page: 1, Op: insert(strings.Repeat("\x07", 256)), Undo: api.UndoPage},
		},
		"no map":         {{Kind: api.RecUpdate, Tx: 7, Page: 2, Op: heapPage, Undo: api.UndoPage}},
		"no right map":   {{Kind: api.RecUpdate, Tx: 7, Page: 1, Op: api.Op{Kind: api.OpFormat, At: api.KindMap}, Undo: api.UndoPage}},
		"another kind":   {{Kind: api.RecUpdate, Tx: 7, Page: 2, Op: api.Op{Kind: api.OpFormat, At: api.KindLeaf}, Undo: api.UndoPage}},
		"other pages":    {{Kind: api.RecUpdate, Tx: 7, Page: 3, Op: heapPage, Undo: api.UndoPage}},
		"nothing at all": nil,
	} {
		ended := append(l, api.Rec{Kind: api.RecCommit, Tx: 7, Prev: 1}, api.Rec{Kind: api.RecEnd, Tx: 7, Prev: 1})
		want := api.Risen{Records: len(l) + 2, Redone: len(l), Fresh: true}
		wantOpen(t, what, laid(t, ended...), want)
		want.Records, want.Losers, want.Undone = len(l), min(len(l), 1), len(l)
		s := wantOpen(t, what+", of a loser", laid(t, l...), want)
		if len(l) > 0 && s.l.Master() == 0 {
			t.Error(what, "of a loser: no checkpoint")
		}
	}
}

// torn is a disk with a store that was begun, and so many bytes at the log's end that are no record.
func torn(t *testing.T, n int) *disk.Disk {
	t.Helper()
	d := fresh(t).d
	wantErr(t, "AppendLog", d.AppendLog(strings.Repeat("x", n)), api.OK)
	wantErr(t, "SyncLog", d.SyncLog(), api.OK)
	return d
}

// 21.1: Torn is how many bytes at the log's end are no record: those are gone.
func TestTorn(t *testing.T) {
	for _, n := range []int{0, 1, 2, 11, 12, 13, 100, 5000} {
		d := torn(t, n)
		was, _ := d.ReadLog()
		wantOpen(t, "torn", d, api.Risen{Torn: n, Records: 2})
		if is, e := d.ReadLog(); is != was[:len(was)-n] || e != api.OK {
			t.Errorf("%d torn: the log has %d bytes, not %d less than %d; %d", n, len(is), n, len(was), e)
		}
		wantOpen(t, "again", d, api.Risen{Records: 2})
	}
}

// 21.1: a record of which the last byte is missing, or another one, and those behind it.
func TestTornRecord(t *testing.T) {
	s := fresh(t)
	n := s.begin(t)
	s.put(t, n, 5, "a")
	last := int(s.put(t, n, 5, "b")) - 1
	end := int(s.put(t, n, 6, "c")) - 1
	s.flush(t)
	all, _ := s.d.ReadLog()
	for at := last; at < len(all); at++ {
		d := s.d.Clone()
		wantErr(t, "CutLog", d.CutLog(at), api.OK)
		wantErr(t, "AppendLog", d.AppendLog(string([]byte{all[at] ^ 1})+all[at+1:]), api.OK)
		wantErr(t, "SyncLog", d.SyncLog(), api.OK)
		many := 1
		from := last
		if at >= end {
			many, from = 2, end
		}
		want := api.Risen{Torn: len(all) - from, Records: 2 + many, Redone: many, Losers: 1, Undone: many}
		wantOpen(t, "another byte", d, want)
		cut := s.d.Clone()
		wantErr(t, "CutLog", cut.CutLog(at), api.OK)
		want.Torn = at - from
		wantOpen(t, "cut", cut, want)
	}
}

// 21.1: an empty log with nothing but torn bytes is as an empty one.
func TestTornAlone(t *testing.T) {
	d := empty(t, room)
	wantErr(t, "AppendLog", d.AppendLog("no record"), api.OK)
	s := wantOpen(t, "torn alone", d, api.Risen{Torn: 9, Fresh: true})
	if _, _, here := s.l.Get(1); !here {
		t.Error("no first record")
	}
	l, torn, e := wal.Open(d)
	if torn != 0 || e != api.OK || l.Len() != 4 {
		t.Error(l.Len(), torn, e)
	}
}
