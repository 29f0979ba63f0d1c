package pool_test

import (
	"slices"
	"strings"
	"testing"

	"girder/api"
	"girder/disk"
	"girder/page"
	"girder/pool"
	"girder/wal"
)

// 6.2: a dirty page goes to its place and its twin, for sure; then it is not dirty, and stays in its frame.
func TestWrite(t *testing.T) {
	d, l, p := begun(t, 4)
	x, y := sheet(3, 0, "x"), sheet(5, 0, "y")
	put(t, p, x, y)
	wantErr(t, "Write", p.Write(3), api.OK)
	if d.Calls() != 4 {
		t.Error("calls:", d.Calls())
	}
	wantOnDisk(t, d, 3, coded(t, x), coded(t, x))
	wantOnDisk(t, d, 5, zeros(), zeros())
	wantDirty(t, p, api.Dirty{Page: 5, LSN: 1})
	wantNumbers(t, p, 3, 5)
	wantCounts(t, p, 0, 1)
	d.Crash(api.Fall{})
	d.Up()
	wantOnDisk(t, d, 3, coded(t, x), coded(t, x))
	wantPage(t, p, x)
	wantPage(t, on(t, d, l, 4), x)
	wantPage(t, on(t, d, l, 4), page.Blank(5))
}

// 6.2: what is not dirty, or in no frame, is not written, on a dead disk neither.
func TestWriteNothing(t *testing.T) {
	d, l, p := begun(t, 4)
	put(t, p, sheet(1, record(t, l), "x"))
	wantErr(t, "Write", p.Write(1), api.OK)
	wantPage(t, p, page.Blank(2))
	record(t, l)
	calls := d.Calls()
	for _, dead := range []bool{false, true} {
		if dead {
			d.Crash(api.Fall{})
		}
		for _, n := range []api.Page{1, 2, 3, 0, room + 1, api.MaxPages + 1} {
			wantErr(t, "Write", p.Write(n), api.OK)
		}
		wantErr(t, "WriteAll", p.WriteAll(), api.OK)
	}
	if d.Calls() != calls {
		t.Error("calls:", d.Calls()-calls)
	}
	wantCounts(t, p, 1, 1)
}

// 6.2: WriteAll writes all that is dirty; nothing, when nothing is.
func TestWriteAll(t *testing.T) {
	d, l, p := begun(t, 8)
	wantErr(t, "WriteAll of nothing", p.WriteAll(), api.OK)
	putNumbers(t, p, 7, 2, 5)
	wantPage(t, p, page.Blank(3))
	for range 2 {
		wantErr(t, "WriteAll", p.WriteAll(), api.OK)
		wantDirty(t, p)
		wantNumbers(t, p, 2, 3, 5, 7)
		wantCounts(t, p, 1, 3)
	}
	if d.Calls() != 12 {
		t.Error("calls:", d.Calls())
	}
	wantOnDisk(t, d, 3, zeros(), zeros())
	q := on(t, d, l, 4)
	for _, n := range []api.Page{2, 5, 7} {
		wantPage(t, q, sheet(n, 0, "some"))
	}
}

// 6.2: WriteAll goes by rising numbers up to the first error; what was written ahead of it is written.
func TestWriteAllUpToAnError(t *testing.T) {
	d, _, p := begun(t, 8)
	putNumbers(t, p, 9, 2, room+3, 4, room+1)
	for range 2 {
		wantErr(t, "WriteAll", p.WriteAll(), api.ErrSpace)
		wantDirty(t, p, api.Dirty{Page: room + 1, LSN: 1}, api.Dirty{Page: room + 3, LSN: 1})
		wantCounts(t, p, 0, 3)
	}
	for written := range 5 {
		d, _, p = begun(t, 8)
		putNumbers(t, p, 9, 2, 4, 3)
		d.Plan([]api.Fall{{At: 4*written + 2}})
		want := api.ErrDead
		if written == 4 {
			want = api.OK
		}
		wantErr(t, "WriteAll", p.WriteAll(), want)
		var left []api.Dirty
		for _, n := range []api.Page{2, 3, 4, 9}[written:] {
			left = append(left, api.Dirty{Page: n, LSN: 1})
		}
		wantDirty(t, p, left...)
		wantCounts(t, p, 0, written)
		d.Up()
		d.Plan(nil)
		wantErr(t, "WriteAll again", p.WriteAll(), api.OK)
		wantDirty(t, p)
		wantCounts(t, p, 0, 4)
	}
}

// 6.2: a page that leaves is written, if it is dirty; a clean one just goes.
func TestLeaving(t *testing.T) {
	d, _, p := begun(t, 4)
	x := sheet(1, 0, "x")
	put(t, p, x)
	for n := api.Page(2); n <= 4; n++ {
		wantPage(t, p, page.Blank(n))
	}
	wantPage(t, p, page.Blank(5))
	wantNumbers(t, p, 2, 3, 4, 5)
	wantOnDisk(t, d, 1, coded(t, x), coded(t, x))
	wantDirty(t, p)
	wantCounts(t, p, 4, 1)
	calls := d.Calls()
	if writes, _ := d.Loose(); calls != 4 || writes != 0 {
		t.Errorf("%d calls, %d loose", calls, writes)
	}
	put(t, p, sheet(6, 0, "y"))
	wantNumbers(t, p, 3, 4, 5, 6)
	wantPage(t, p, x)
	wantNumbers(t, p, 1, 4, 5, 6)
	wantCounts(t, p, 5, 1)
	if d.Calls() != calls {
		t.Error("calls for clean ones:", d.Calls()-calls)
	}
	wantPage(t, p, page.Blank(2))
	wantCounts(t, p, 6, 1)
	p.Picks([]int{-1})
	put(t, p, sheet(7, 0, "z"))
	wantNumbers(t, p, 2, 4, 5, 7)
	wantDirty(t, p, api.Dirty{Page: 7, LSN: 1})
	wantCounts(t, p, 6, 2)
	wantPage(t, p, sheet(6, 0, "y"))
}

// 6.2: Put into a frame that is there lets nobody leave.
func TestPutInItsFrame(t *testing.T) {
	d, _, p := begun(t, 4)
	putNumbers(t, p, 1, 2, 3, 4)
	for n := api.Page(1); n <= 4; n++ {
		put(t, p, sheet(n, 5, "again"))
	}
	wantNumbers(t, p, 1, 2, 3, 4)
	wantCounts(t, p, 0, 0)
	if d.Calls() != 0 {
		t.Error("calls:", d.Calls())
	}
}

// 6.2: who can't be written can't leave: the error is told, and nothing changes, the picks and the log neither.
func TestLeavingFails(t *testing.T) {
	for _, c := range []struct {
		name string
		fail func(d *disk.Disk)
		want api.Errno
		mend func(d *disk.Disk)
	}{
		{"dead", func(d *disk.Disk) { d.Crash(api.Fall{}) }, api.ErrDead, func(d *disk.Disk) { d.Up() }},
		{"no room in the disk's log", func(d *disk.Disk) {
			d.AppendLog(strings.Repeat("x", api.MaxLog))
			d.SyncLog()
		}, api.ErrSpace, func(d *disk.Disk) { d.CutLog(0) }},
	} {
		d, l, p := begun(t, 4)
		for n := api.Page(1); n <= 4; n++ {
			put(t, p, sheet(n, record(t, l), "x"))
		}
		p.Picks([]int{2, 1})
		dirty := p.Dirty()
		c.fail(d)
		calls := d.Calls()
		for range 2 {
			wantErr(t, "Put", p.Put(sheet(5, 0, "y")), c.want)
			wantErr(t, "Write", p.Write(3), c.want)
			wantErr(t, "WriteAll", p.WriteAll(), c.want)
			wantNone(t, p, 6, c.want)
			put(t, p, sheet(4, 50, "z"))
		}
		wantNumbers(t, p, 1, 2, 3, 4)
		wantDirty(t, p, dirty...)
		wantCounts(t, p, 0, 0)
		wantPage(t, p, sheet(4, 50, "z"))
		if d.Calls() != calls || l.Flushed() != 1 {
			t.Errorf("%s: %d calls, flushed up to %d", c.name, d.Calls()-calls, l.Flushed())
		}
		c.mend(d)
		wantOnDisk(t, d, 3, zeros(), zeros())
		put(t, p, sheet(5, 0, "y"))
		wantNumbers(t, p, 1, 2, 4, 5)
		wantPage(t, p, page.Blank(6))
		wantNumbers(t, p, 1, 4, 5, 6)
		wantCounts(t, p, 1, 2)
		if t.Failed() {
			t.Fatal(c.name)
		}
	}
}

// 6.2: a page for which the disk has no room can be put, but neither written nor let go; the log is not flushed for it.
func TestNoRoomOnDisk(t *testing.T) {
	d, l, p := begun(t, 4)
	x := sheet(room+1, record(t, l), "x")
	put(t, p, x)
	putNumbers(t, p, 1, 2, 3)
	p.Picks([]int{3, 1})
	for range 2 {
		wantErr(t, "Write", p.Write(room+1), api.ErrSpace)
		wantNone(t, p, 4, api.ErrSpace)
		wantErr(t, "Put", p.Put(sheet(4, 0, "y")), api.ErrSpace)
	}
	wantPage(t, p, x)
	wantNumbers(t, p, 1, 2, 3, room+1)
	wantCounts(t, p, 0, 0)
	if d.Calls() != 0 || l.Flushed() != 1 {
		t.Errorf("%d calls, flushed up to %d", d.Calls(), l.Flushed())
	}
	if p.Drop(room + 1) {
		t.Error("Drop of a dirty one")
	}
	p.Picks(nil)
	wantPage(t, p, page.Blank(4))
	wantNumbers(t, p, 2, 3, 4, room+1)
}

// 6.2: the log is flushed up to the page's LSN, and asked for nothing, if it is already.
func TestWriteFlushes(t *testing.T) {
	for _, c := range []struct {
		lsn     api.LSN
		flushed bool // ahead of it
		calls   int
	}{
		{0, false, 4}, {1, false, 6}, {19, false, 6}, {20, false, 6}, {1 << 40, false, 6},
		{0, true, 4}, {1, true, 4}, {19, true, 6}, {18, true, 4}, {1 << 40, true, 6},
	} {
		d, l, p := begun(t, 4)
		record(t, l)
		if c.flushed {
			wantErr(t, "Flush", l.Flush(1), api.OK)
		}
		if at := record(t, l); at != 19 {
			t.Fatal(at)
		}
		put(t, p, sheet(2, c.lsn, "x"))
		calls := d.Calls()
		wantErr(t, "Write", p.Write(2), api.OK)
		if n := d.Calls() - calls; n != c.calls {
			t.Errorf("%+v: %d calls", c, n)
		}
		if all := l.Flushed() == l.End(); all != (c.calls == 6) {
			t.Errorf("%+v: flushed up to %d", c, l.Flushed())
		}
		wantOnDisk(t, d, 2, coded(t, sheet(2, c.lsn, "x")), coded(t, sheet(2, c.lsn, "x")))
	}
}

// 6.2: it is the LSN that the page has now that the log is flushed up to, not that of its first change.
func TestWriteFlushesTheLast(t *testing.T) {
	_, l, p := begun(t, 4)
	first := record(t, l)
	wantErr(t, "Flush", l.Flush(first), api.OK)
	put(t, p, sheet(2, first, "x"))
	last := record(t, l)
	put(t, p, sheet(2, last, "y"))
	wantDirty(t, p, api.Dirty{Page: 2, LSN: first})
	wantErr(t, "Write", p.Write(2), api.OK)
	if l.Flushed() <= last {
		t.Error("flushed up to", l.Flushed())
	}
}

// orderOf is the pages that a Write of n writes, in order: at a fall ahead of each call what is loose then stays.
func orderOf(t *testing.T, n api.Page, prepare func(d *disk.Disk)) []api.Page {
	t.Helper()
	var order []api.Page
	for at := range 9 {
		d, l, p := begun(t, 4)
		prepare(d)
		put(t, p, sheet(n, 99, "new"))
		written := coded(t, sheet(n, 99, "new"))
		d.Plan([]api.Fall{{At: d.Calls() + at, Keep: 1}})
		e := p.Write(n)
		if d.Up(); e == api.OK {
			if at != 4 || l.End() != 1 {
				t.Errorf("%d calls", at)
			}
			break
		}
		for _, where := range []api.Page{n, n + api.MaxPages} {
			if s, _ := d.Read(where); s == written && !slices.Contains(order, where) {
				order = append(order, where)
			}
		}
	}
	return order
}

// 6.2, 6.4: the twin is written first; but where an earlier fall left the twin as the one that counts, the place is: else a fall that tears the twin would leave nothing, or something too old.
func TestOrder(t *testing.T) {
	const n, twin = 3, 3 + api.MaxPages
	old, older := coded(t, sheet(n, 9, "old")), coded(t, sheet(n, 5, "older"))
	torn := old[:200] + older[200:]
	for _, c := range []struct {
		name        string
		place, twin string
		first       api.Page
	}{
		{"nothing yet", zeros(), zeros(), twin},
		{"both whole", old, old, twin},
		{"a torn twin", old, torn, twin},
		{"a torn twin, and nothing yet", zeros(), torn, twin},
		{"an older twin", old, older, twin},
		{"a blank twin", old, zeros(), twin},
		{"both torn", torn, torn[:90] + old[90:100] + torn[100:], twin},
		{"a torn place", torn, old, n},
		{"an older place", older, old, n},
		{"a blank place", zeros(), old, n},
		{"a torn place, nothing at the twin", torn, zeros(), n},
	} {
		got := orderOf(t, n, func(d *disk.Disk) {
			d.Write(n, c.place)
			d.Write(twin, c.twin)
			d.Sync()
		})
		want := []api.Page{twin, n}
		if c.first == n {
			want = []api.Page{n, twin}
		}
		if !slices.Equal(got, want) {
			t.Errorf("%s: %v, not %v", c.name, got, want)
		}
	}
}

// wantLogged asks that the log, as the disk has it, has the record of each page that stands on the disk.
func wantLogged(t *testing.T, d *disk.Disk) {
	t.Helper()
	l, _, e := wal.Open(d.Clone())
	wantErr(t, "wal.Open", e, api.OK)
	for at := api.Page(1); at <= room; at++ {
		for _, where := range []api.Page{at, at + api.MaxPages} {
			s, _ := d.Read(where)
			x, e := page.Decode(s)
			if e != api.OK || x.LSN == 0 {
				continue
			}
			if _, _, ok := l.Get(x.LSN); !ok {
				t.Errorf("the page %d with the LSN %d, which the log has not", where, x.LSN)
			}
		}
	}
}

// 6.4: no page and no twin is on the disk ahead of the log: at each call, whatever stays of it.
func TestBehindTheLog(t *testing.T) {
	ways := []struct {
		name string
		do   func(p *pool.Pool) api.Errno
	}{
		{"Write", func(p *pool.Pool) api.Errno { return p.Write(3) }},
		{"WriteAll", func(p *pool.Pool) api.Errno { return p.WriteAll() }},
		{"Get", func(p *pool.Pool) api.Errno { _, e := p.Get(9); return e }},
		{"Put", func(p *pool.Pool) api.Errno { return p.Put(sheet(9, 0, "y")) }},
	}
	for _, way := range ways {
		for at := range 40 {
			for stay := range 75 {
				d, l, p := begun(t, 4)
				for n := api.Page(1); n <= 4; n++ {
					put(t, p, sheet(n, record(t, l), "x"))
				}
				p.Picks([]int{2})
				d.Plan([]api.Fall{{At: at, Keep: 1, Log: stay}})
				e := way.do(p)
				dead := d.Up()
				if (e == api.ErrDead) != dead || e != api.OK && !dead {
					t.Fatalf("%s: %d", way.name, e)
				}
				wantLogged(t, d)
				if t.Failed() {
					t.Fatalf("%s, a fall at %d, of which %d bytes stay", way.name, at, stay)
				}
				if !dead {
					break
				}
			}
		}
	}
}

// 6.3: Counts tells how many were fetched into frames and how many written, however it came to that.
func TestCounts(t *testing.T) {
	_, _, p := begun(t, 4)
	for n := api.Page(1); n <= 10; n++ {
		wantPage(t, p, page.Blank(n))
		wantPage(t, p, page.Blank(n))
		wantCounts(t, p, int(n), 0)
	}
	putNumbers(t, p, 1, 2, 3, 4, 10, 1)
	wantCounts(t, p, 10, 4)
	wantErr(t, "Write", p.Write(10), api.OK)
	wantErr(t, "Write again", p.Write(10), api.OK)
	wantCounts(t, p, 10, 5)
	wantErr(t, "WriteAll", p.WriteAll(), api.OK)
	wantCounts(t, p, 10, 6)
	p.Drop(1)
	wantPage(t, p, sheet(1, 0, "some"))
	wantCounts(t, p, 11, 6)
}
