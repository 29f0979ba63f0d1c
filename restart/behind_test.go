package restart_test

import (
	"fmt"
	"hash/crc32"
	"slices"
	"strings"
	"testing"

	"girder/analyze"
	"girder/api"
	"girder/catalog"
	"girder/ckpt"
	"girder/disk"
	"girder/redo"
	"girder/restart"
	"girder/undo"
)

// 21.1: a number that a transaction begins with behind Open is greater than each that the log has, of whatever record.
func TestNumbers(t *testing.T) {
	at := func(r api.Rec) func(s store) {
		return func(s store) { s.lay(t, r) }
	}
	for _, x := range []struct {
		what string
		do   func(s store)
		want int
	}{
		{"none", func(store) {}, 2},
		{"a change", at(api.Rec{Kind: api.RecUpdate, Tx: 7, Page: 5, Op: insert("a"), Undo: api.UndoPage}), 8},
		{"a compensation", at(api.Rec{Kind: api.RecCLR, Tx: 9, Page: 5, Op: insert("a")}), 10},
		{"a nested top action", at(api.Rec{Kind: api.RecTop, Tx: 5}), 6},
		{"a commit", at(api.Rec{Kind: api.RecCommit, Tx: 1000}), 1001},
		{"an abort", at(api.Rec{Kind: api.RecAbort, Tx: 77}), 78},
		{"an end", at(api.Rec{Kind: api.RecEnd, Tx: 1 << 20}), 1<<20 + 1},
		{"a checkpoint's greatest", at(api.Rec{Kind: api.RecCheck, Tx: 55}), 56},
		{"one of a checkpoint's", at(api.Rec{Kind: api.RecCheck, Txs: []api.TxState{{Tx: 66, State: api.TxActive}}}), 67},
		{"not the last one", func(s store) {
			s.lay(t, api.Rec{Kind: api.RecEnd, Tx: 40})
			s.lay(t, api.Rec{Kind: api.RecEnd, Tx: 30})
		}, 41},
		{"ahead of a checkpoint", func(s store) {
			for range 5 {
				s.committed(t, func(int) {})
			}
			s.take(t)
		}, 7},
		{"without a record, ahead of a checkpoint", func(s store) {
			s.begin(t)
			s.begin(t)
			s.take(t)
		}, 4},
	} {
		s := fresh(t)
		x.do(s)
		s.flush(t)
		for range 2 {
			s, _ = opened(t, s.falls(), frames)
			if n := s.Coming(); n != x.want {
				t.Errorf("%s: Coming: %d, not %d", x.what, n, x.want)
			}
		}
		if n := s.begin(t); n != x.want {
			t.Errorf("%s: Begin: %d, not %d", x.what, n, x.want)
		}
	}
}

// 21.1: numbers rise over many standings up, when each one has something in the log.
func TestNumbersRise(t *testing.T) {
	s := fresh(t)
	for i := range 20 {
		n := s.begin(t)
		if n != 2+i {
			t.Fatalf("the number %d, not %d", n, 2+i)
		}
		s.put(t, n, 5, "a")
		if i%3 == 0 {
			wantErr(t, "Commit", s.Commit(n), api.OK)
		}
		s.flush(t)
		s, _ = opened(t, s.falls(), frames)
	}
}

// 21.1: a checkpoint where there were transactions: the log leads to it, and so it does behind a fall; none where there were none.
func TestCheckpoint(t *testing.T) {
	for _, x := range []struct {
		what string
		do   func(s store)
		want bool
	}{
		{"nobody", func(store) {}, false},
		{"one that ended", func(s store) { s.committed(t, func(n int) { s.put(t, n, 5, "a") }) }, false},
		{"a loser", func(s store) { s.put(t, s.begin(t), 5, "a") }, true},
		{"a winner", func(s store) { s.lay(t, api.Rec{Kind: api.RecCommit, Tx: s.begin(t)}) }, true},
		{"a loser without a record", func(s store) { s.begin(t); s.take(t) }, true},
	} {
		s := fresh(t)
		x.do(s)
		s.flush(t)
		end, master := s.l.End(), s.l.Master()
		s, _ = opened(t, s.falls(), frames)
		if is := s.l.Master() >= end; is != x.want || !is && s.l.Master() != master {
			t.Errorf("%s: the master is %d, was %d; the end was %d", x.what, s.l.Master(), master, end)
		}
		if x.want {
			l := records(t, s.l, s.l.Master())
			if len(l) != 2 || l[0].r.Kind != api.RecBegin || l[1].r.Kind != api.RecCheck || !slices.Equal(l[1].r.Dirty, s.p.Dirty()) || len(l[1].r.Txs) > 0 {
				t.Errorf("%s: %+v", x.what, l)
			}
		} else if s.l.End() != end {
			t.Errorf("%s: something was put: %+v", x.what, records(t, s.l, end))
		}
		at := s.l.Master()
		if s, _ = opened(t, s.falls(), frames); s.l.Master() != at {
			t.Errorf("%s: behind a fall the master is %d, not %d", x.what, s.l.Master(), at)
		}
	}
}

// full is a disk whose log has a loser with one change, and room for just so many bytes more. The records are laid by hand: one who was begun would have kept more room.
func full(t *testing.T, left int) *disk.Disk {
	t.Helper()
	lay := func(s store) {
		s.take(t)
		s.lay(t, api.Rec{Kind: api.RecUpdate, Tx: 9, Page: 5, Op: insert("a"), Undo: api.UndoPage})
	}
	try, s := fresh(t), fresh(t)
	lay(try)
	s.fill(t, try.l.Room()-left)
	lay(s)
	if s.l.Room() != left {
		t.Fatalf("room for %d, not %d", s.l.Room(), left)
	}
	s.flush(t)
	return s.falls()
}

// fill puts bytes that are no record's into the log, so many with their frames.
func (s store) fill(t *testing.T, n int) {
	t.Helper()
	const least, most = api.FrameBytes + 1, api.FrameBytes + api.MaxRecord
	for n > 0 {
		long := min(n, most)
		if rest := n - long; rest > 0 && rest < least {
			long -= least
		}
		s.layBytes(t, strings.Repeat("\xff", long-api.FrameBytes))
		n -= long
	}
}

const (
	backLong  = 46           // bytes of the frame of the compensation of a slot of one byte that was put in
	endLong   = 25           // of a RecAbort, and of a RecEnd
	checkLong = 25 + 29 + 12 // of the two of a checkpoint with one page that is dirty
)

// 21.1: no checkpoint where there is no room for it: to the byte. What is taken back stays so.
func TestNoRoom(t *testing.T) {
	t.Parallel()
	const least = backLong + 2*endLong
	for left, want := range map[int]bool{least: false, least + 1: false, least + checkLong - 1: false, least + checkLong: true, least + checkLong + 1: true} {
		d := full(t, left)
		s := wantOpen(t, fmt.Sprint(left), d, api.Risen{Records: 3, Redone: 1, Losers: 1, Undone: 1})
		l := records(t, s.l, s.l.Master())
		many := 2 + 1 + 3
		if want {
			many = 2
		}
		if len(l) != many {
			t.Errorf("%d bytes left: %+v", left, l)
		}
		if s.l.Flushed() != s.l.End() || s.l.Kept() != 0 {
			t.Errorf("%d bytes left: flushed up to %d, the end is %d; kept: %d", left, s.l.Flushed(), s.l.End(), s.l.Kept())
		}
		s, r := opened(t, s.falls(), frames)
		if r.Losers != 0 || r.Undone != 0 || r.Records != many {
			t.Errorf("%d bytes left, and again: %+v", left, r)
		}
		s.wantSlots(t, 5)
	}
}

// 21.1, R2: no room for what takes a loser back, and for what ends it: that can be in a log that was laid by hand alone. Nothing is changed.
func TestNoRoomAtAll(t *testing.T) {
	t.Parallel()
	const least = backLong + 2*endLong
	for _, left := range []int{0, 1, backLong - 1, backLong, backLong + endLong - 1, backLong + endLong, least - 1} {
		wantRefused(t, fmt.Sprint(left), full(t, left), frames, api.ErrLog)
	}
}

// byHand stands up by the functions of the layers below, one behind the other.
func byHand(t *testing.T, d *disk.Disk, frames int, picks []int) (store, api.Errno) {
	t.Helper()
	s := over(t, d, frames)
	s.p.Picks(picks)
	f, e := analyze.Run(s.l)
	wantErr(t, "analyze.Run", e, api.OK)
	if _, _, e = redo.Run(s.p, f); e != api.OK {
		return s, e
	}
	wantErr(t, "Load", s.Load(f.Txs, f.Most+1), api.OK)
	for _, x := range s.All() {
		if x.State == api.TxCommitted {
			wantErr(t, "Finish", s.Finish(x.Tx), api.OK)
		}
	}
	for more := true; more; {
		if more, e = s.undoLast(t); e != api.OK {
			return s, e
		}
	}
	for _, x := range s.All() {
		if e := undo.Abort(s.Manager, x.Tx); e != api.OK {
			return s, e
		}
	}
	if len(f.Txs) > 0 && ckpt.Room(s.Manager) {
		if _, e := ckpt.Take(s.Manager); e != api.OK {
			return s, e
		}
	}
	begun, e := catalog.Begun(s.Manager)
	if e != api.OK || begun {
		return s, e
	}
	return s, catalog.Begin(s.Manager)
}

// undoLast takes the last record back of all that are to be taken back, and tells whether there was one.
func (s store) undoLast(t *testing.T) (bool, api.Errno) {
	t.Helper()
	var last placed
	for _, x := range s.All() {
		r, at, e := s.Next(x.Tx)
		wantErr(t, "Next", e, api.OK)
		if at > last.at {
			last = placed{at, r}
		}
	}
	if last.at == 0 {
		return false, api.OK
	}
	return true, undo.One(s.Manager, last.r.Tx, last.r)
}

// look is all that is to be seen of a store; of what is long a sum.
func (s store) look(t *testing.T) string {
	t.Helper()
	var b strings.Builder
	fetched, written := s.p.Counts()
	fmt.Fprint(&b, seen(s.d))
	for _, n := range s.p.Numbers() {
		x, e := s.p.Get(n)
		fmt.Fprintf(&b, " %+v %d", x, e)
	}
	for _, x := range records(t, s.l, 1) {
		fmt.Fprintf(&b, " %+v", x)
	}
	sum := crc32.ChecksumIEEE([]byte(b.String()))
	return fmt.Sprint(s.All(), s.Done(), s.Coming(), s.p.Numbers(), s.p.Dirty(), fetched, written, s.l.Flushed(), s.l.End(), s.l.Master(), s.l.Kept(), s.d.Calls(), " ", sum)
}

// 21.1: picks are the pool's: they tell which pages leave it while it stands up, and those that are left which ones leave it later.
func TestPicks(t *testing.T) {
	t.Parallel()
	s := fresh(t)
	a, b := s.begin(t), s.begin(t)
	for i := range 24 {
		s.put(t, []int{a, b}[i%2], api.Page(5+i*7%9), fmt.Sprint(i))
	}
	s.flush(t)
	s.falls()
	looks := map[string]bool{}
	for _, picks := range [][]int{nil, {0}, {1}, {3}, {-1}, {1, 2, 3, 1, 2, 3}, {7, -7, 4, 1 << 40}, slices.Repeat([]int{3, 1, 0, 2}, 30), slices.Repeat([]int{2}, 99)} {
		for _, frames := range []int{4, 6} {
			given := slices.Clone(picks)
			m, _, e := restart.Open(s.d.Clone(), frames, picks)
			wantErr(t, "Open", e, api.OK)
			x := store{m, m.Pool().Disk(), m.Pool().Log(), m.Pool()}
			y, e := byHand(t, s.d.Clone(), frames, given)
			wantErr(t, "by hand", e, api.OK)
			for n := range api.Page(12) {
				if x.look(t) != y.look(t) {
					t.Fatalf("%v, %d frames, %d pages later:\n%s\n%s", picks, frames, n, x.look(t), y.look(t))
				}
				x.p.Get(20 + n)
				y.p.Get(20 + n)
			}
			looks[x.look(t)] = true
		}
	}
	if len(looks) < 10 {
		t.Error("all picks do the same:", len(looks))
	}
}

// 21.1: the pool has as many frames as was said.
func TestFramesOfPool(t *testing.T) {
	for _, frames := range []int{4, 5, 30} {
		s, _ := opened(t, fresh(t).d, frames, 1, 1, 1)
		for n := range api.Page(room) {
			if _, e := s.p.Get(n + 1); e != api.OK || len(s.p.Numbers()) != max(2, min(int(n)+1, frames)) {
				t.Fatal(frames, "frames:", s.p.Numbers(), e)
			}
		}
	}
}

// R4, R5: picks are neither changed nor kept, what lies behind their end counts for nothing; and the same is told, and done, each time.
func TestAlways(t *testing.T) {
	d := fallen(t, 1).d
	var looks []string
	for range 20 {
		all := []int{3, 1, 4, 1, 5, 9, 2, 6}
		x := d.Clone()
		m, r, e := restart.Open(x, 5, all[:4])
		wantErr(t, "Open", e, api.OK)
		if !slices.Equal(all, []int{3, 1, 4, 1, 5, 9, 2, 6}) {
			t.Error("changed:", all)
		}
		clear(all)
		s := store{m, x, m.Pool().Log(), m.Pool()}
		for n := range api.Page(9) {
			s.p.Get(20 + n)
		}
		looks = append(looks, fmt.Sprint(r, s.look(t)))
	}
	for _, x := range looks {
		if x != looks[0] {
			t.Fatalf("%s\n%s", x, looks[0])
		}
	}
}
