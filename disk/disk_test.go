package disk_test

import (
	"math"
	"strings"
	"testing"

	"girder/api"
	"girder/disk"
)

// full is a page's bytes, all the same one.
func full(b byte) string { return strings.Repeat(string([]byte{b}), api.PageBytes) }

// mixed is n bytes of which neighbours differ; another seed makes others at each place.
func mixed(seed, n int) string {
	b := make([]byte, n)
	for i := range n {
		b[i] = byte(i*167 + i>>8 + seed*31)
	}
	return string(b)
}

func fresh(t *testing.T, room int) *disk.Disk {
	t.Helper()
	d, e := disk.New(room)
	if d == nil || e != api.OK {
		t.Fatalf("New(%d): %v, %d", room, d, e)
	}
	return d
}

func wantErr(t *testing.T, what string, e, want api.Errno) {
	t.Helper()
	if e != want {
		t.Errorf("%s: %d, not %d", what, e, want)
	}
}

func wantPage(t *testing.T, d *disk.Disk, p api.Page, want string) {
	t.Helper()
	s, e := d.Read(p)
	if e != api.OK || s != want {
		t.Errorf("Read(%d): %d bytes %.12x.., %d, not %.12x..", p, len(s), s, e, want)
	}
}

func wantMark(t *testing.T, d *disk.Disk, want uint64) {
	t.Helper()
	if n, e := d.Mark(); e != api.OK || n != want {
		t.Errorf("Mark: %d, %d, not %d", n, e, want)
	}
}

func wantLog(t *testing.T, d *disk.Disk, want string) {
	t.Helper()
	if s, e := d.ReadLog(); e != api.OK || s != want {
		t.Errorf("ReadLog: %d bytes %.20q, %d, not %d bytes %.20q", len(s), s, e, len(want), want)
	}
}

func wantLoose(t *testing.T, d *disk.Disk, writes, bytes int) {
	t.Helper()
	if w, b := d.Loose(); w != writes || b != bytes {
		t.Errorf("Loose: %d, %d, not %d, %d", w, b, writes, bytes)
	}
}

func wantCalls(t *testing.T, d *disk.Disk, want int) {
	t.Helper()
	if n := d.Calls(); n != want {
		t.Errorf("Calls: %d, not %d", n, want)
	}
}

func wantDead(t *testing.T, d *disk.Disk, want bool) {
	t.Helper()
	if d.Dead() != want {
		t.Errorf("Dead: %v", !want)
	}
}

// crashUp lets the power fail, and turns it on.
func crashUp(t *testing.T, d *disk.Disk, f api.Fall) {
	t.Helper()
	d.Crash(f)
	wantDead(t, d, true)
	if !d.Up() {
		t.Error("Up: false")
	}
	wantDead(t, d, false)
}

// 2.1: rooms at the edges.
func TestNew(t *testing.T) {
	for _, room := range []int{8, 9, 100, api.MaxPages - 1, api.MaxPages} {
		d := fresh(t, room)
		if n := d.Room(); n != room {
			t.Errorf("Room: %d, not %d", n, room)
		}
		wantDead(t, d, false)
		wantCalls(t, d, 0)
		wantLoose(t, d, 0, 0)
		wantMark(t, d, 0)
		wantLog(t, d, "")
	}
	for _, room := range []int{7, 0, -1, -8, api.MaxPages + 1, 2 * api.MaxPages, math.MinInt, math.MaxInt} {
		if d, e := disk.New(room); d != nil || e != api.ErrArg {
			t.Errorf("New(%d): %v, %d", room, d, e)
		}
	}
}

// 2.1: which pages may be, and for which there is room.
func TestPagesThatMayBe(t *testing.T) {
	const most = api.MaxPages
	for _, room := range []int{8, 9, most - 1, most} {
		d := fresh(t, room)
		r := api.Page(room)
		for _, p := range []api.Page{0, 1, 2, 7, 8, 9, 10, r - 1, r, r + 1, most - 1, most, most + 1, most + 2,
			most + 8, most + 9, most + r - 1, most + r, most + r + 1, 2*most - 1, 2 * most, 2*most + 1, 3 * most,
			3*most + 1, 1 << 31, math.MaxUint32} {
			want := api.OK
			switch {
			case p == 0 || p > 2*most:
				want = api.ErrArg
			case p > r && p <= most || p > most+r:
				want = api.ErrSpace
			}
			wantErr(t, "Write", d.Write(p, full('p')), want)
			bytes := ""
			if want == api.OK {
				bytes = full('p')
			}
			if s, e := d.Read(p); s != bytes || e != want {
				t.Errorf("room %d: Read(%d): %.9q, %d, not %d", room, p, s, e, want)
			}
		}
	}
}

// 2.1: a page has 512 bytes; which page it is counts behind that for ErrSpace alone.
func TestWriteLength(t *testing.T) {
	d := fresh(t, 8)
	for _, n := range []int{0, 1, 511, 513, 1024, 65536} {
		for _, p := range []api.Page{0, 1, 8, 9, api.MaxPages, 2 * api.MaxPages, 2*api.MaxPages + 1} {
			wantErr(t, "Write", d.Write(p, mixed(1, n)), api.ErrArg)
		}
	}
	wantErr(t, "Write(0)", d.Write(0, full('a')), api.ErrArg)
	wantErr(t, "Write(9)", d.Write(9, full('a')), api.ErrSpace)
	wantCalls(t, d, 0)
	wantLoose(t, d, 0, 0)
	wantPage(t, d, 1, full(0))
	wantErr(t, "Write", d.Write(1, mixed(1, 512)), api.OK)
	wantPage(t, d, 1, mixed(1, 512))
	wantCalls(t, d, 1)
	wantLoose(t, d, 1, 0)
}

// 2.1: a page never written is zeros; each has bytes of its own; the last write counts.
func TestReadAndWrite(t *testing.T) {
	const most = api.MaxPages
	d := fresh(t, 8)
	pages := []api.Page{1, 2, 8, most + 1, most + 2, most + 8}
	for _, p := range pages {
		wantPage(t, d, p, full(0))
	}
	for i, p := range pages {
		wantErr(t, "Write", d.Write(p, mixed(i, 512)), api.OK)
	}
	for i, p := range pages {
		wantPage(t, d, p, mixed(i, 512))
	}
	wantPage(t, d, 3, full(0))
	wantErr(t, "Sync", d.Sync(), api.OK)
	for i, p := range pages {
		wantPage(t, d, p, mixed(i, 512))
	}
	d.Write(2, full('x'))
	d.Write(2, full('y'))
	wantPage(t, d, 2, full('y'))
	d.Sync()
	wantPage(t, d, 2, full('y'))
	wantPage(t, d, most+2, mixed(4, 512))
	d.Write(2, full(0))
	wantPage(t, d, 2, full(0))
}

// 2.2: the mark, up to the greatest number.
func TestMark(t *testing.T) {
	d := fresh(t, 8)
	for i, n := range []uint64{1, 0, 1 << 63, math.MaxUint64, 7, 7} {
		wantErr(t, "SetMark", d.SetMark(n), api.OK)
		wantMark(t, d, n)
		wantLoose(t, d, i+1, 0)
	}
	wantErr(t, "Sync", d.Sync(), api.OK)
	wantLoose(t, d, 0, 0)
	wantMark(t, d, 7)
	wantPage(t, d, 1, full(0))
}

// 2.2, 2.3: what Sync makes sure is not loose; SyncLog and Sync do nothing to each other's.
func TestSync(t *testing.T) {
	d := fresh(t, 8)
	d.Write(1, full('a'))
	d.SetMark(5)
	d.Write(1, full('b'))
	d.AppendLog("log")
	wantLoose(t, d, 3, 3)
	wantErr(t, "SyncLog", d.SyncLog(), api.OK)
	wantLoose(t, d, 3, 0)
	d.AppendLog("more")
	wantLoose(t, d, 3, 4)
	wantErr(t, "Sync", d.Sync(), api.OK)
	wantLoose(t, d, 0, 4)
	wantCalls(t, d, 7)
	crashUp(t, d, api.Fall{})
	wantPage(t, d, 1, full('b'))
	wantMark(t, d, 5)
	wantLog(t, d, "log")
}

// 2.2: the log has room for MaxLog bytes, and none for one more.
func TestLogRoom(t *testing.T) {
	d := fresh(t, 8)
	wantErr(t, "one more than all", d.AppendLog(strings.Repeat("x", api.MaxLog+1)), api.ErrSpace)
	wantLog(t, d, "")
	wantErr(t, "all but one", d.AppendLog(strings.Repeat("x", api.MaxLog-1)), api.OK)
	wantErr(t, "two", d.AppendLog("yy"), api.ErrSpace)
	wantCalls(t, d, 1)
	wantLoose(t, d, 0, api.MaxLog-1)
	wantErr(t, "the last", d.AppendLog("y"), api.OK)
	wantErr(t, "one more", d.AppendLog("z"), api.ErrSpace)
	wantErr(t, "nothing", d.AppendLog(""), api.OK)
	wantCalls(t, d, 3)
	wantLoose(t, d, 0, api.MaxLog)
	wantLog(t, d, strings.Repeat("x", api.MaxLog-1)+"y")
	wantErr(t, "CutLog", d.CutLog(api.MaxLog), api.OK)
	wantErr(t, "full", d.AppendLog("z"), api.ErrSpace)
	wantErr(t, "CutLog", d.CutLog(api.MaxLog-2), api.OK)
	wantErr(t, "three", d.AppendLog("abc"), api.ErrSpace)
	wantErr(t, "two", d.AppendLog("ab"), api.OK)
	wantLog(t, d, strings.Repeat("x", api.MaxLog-2)+"ab")

	d = fresh(t, 8)
	wantErr(t, "all at one time", d.AppendLog(strings.Repeat("x", api.MaxLog)), api.OK)
	wantErr(t, "one more", d.AppendLog("z"), api.ErrSpace)
}

// 2.2: CutLog at the edges; what it leaves is sure, also what was loose.
func TestCutLog(t *testing.T) {
	d := fresh(t, 8)
	wantErr(t, "nothing of nothing", d.CutLog(0), api.OK)
	wantErr(t, "one of nothing", d.CutLog(1), api.ErrArg)
	d.AppendLog("0123456789")
	for _, n := range []int{-1, 11, math.MinInt, math.MaxInt} {
		wantErr(t, "CutLog", d.CutLog(n), api.ErrArg)
	}
	wantCalls(t, d, 2)
	wantLog(t, d, "0123456789")
	wantLoose(t, d, 0, 10)

	wantErr(t, "at the length", d.CutLog(10), api.OK)
	wantLoose(t, d, 0, 0)
	d.AppendLog("abc")
	wantLoose(t, d, 0, 3)
	wantErr(t, "in the loose part", d.CutLog(12), api.OK)
	wantLoose(t, d, 0, 0)
	crashUp(t, d, api.Fall{})
	wantLog(t, d, "0123456789ab")

	wantErr(t, "in the part that was synced", d.CutLog(4), api.OK)
	wantLog(t, d, "0123")
	wantErr(t, "behind the new length", d.CutLog(5), api.ErrArg)
	d.AppendLog("xyz")
	wantLog(t, d, "0123xyz")
	wantLoose(t, d, 0, 3)
	crashUp(t, d, api.Fall{})
	wantLog(t, d, "0123")

	d.AppendLog("uv")
	wantErr(t, "into the synced part, past loose bytes", d.CutLog(2), api.OK)
	wantLoose(t, d, 0, 0)
	crashUp(t, d, api.Fall{Log: 100})
	wantLog(t, d, "01")
	wantErr(t, "all", d.CutLog(0), api.OK)
	wantLog(t, d, "")
	crashUp(t, d, api.Fall{Log: 100})
	wantLog(t, d, "")
}

// 2.2: what is told of a log does not change when it is written over.
func TestReadLogStays(t *testing.T) {
	d := fresh(t, 8)
	d.AppendLog("abcdef")
	s, _ := d.ReadLog()
	d.CutLog(0)
	d.AppendLog("uvwxyz")
	if s != "abcdef" {
		t.Errorf("%q", s)
	}
	wantLog(t, d, "uvwxyz")
}

// 2.1, 2.2, 2.3: a dead disk answers ErrDead ahead of all else, and counts nothing.
func TestDeadDisk(t *testing.T) {
	d := fresh(t, 8)
	d.Write(1, full('a'))
	d.SetMark(3)
	d.AppendLog("log")
	d.Sync()
	d.SyncLog()
	d.Crash(api.Fall{})
	d.Plan([]api.Fall{{At: 5}})
	wantErr(t, "Write", d.Write(1, full('b')), api.ErrDead)
	wantErr(t, "Write", d.Write(0, "x"), api.ErrDead)
	wantErr(t, "Write", d.Write(9, full('b')), api.ErrDead)
	wantErr(t, "SetMark", d.SetMark(4), api.ErrDead)
	wantErr(t, "Sync", d.Sync(), api.ErrDead)
	wantErr(t, "AppendLog", d.AppendLog("x"), api.ErrDead)
	wantErr(t, "AppendLog", d.AppendLog(strings.Repeat("x", api.MaxLog)), api.ErrDead)
	wantErr(t, "SyncLog", d.SyncLog(), api.ErrDead)
	wantErr(t, "CutLog", d.CutLog(0), api.ErrDead)
	wantErr(t, "CutLog", d.CutLog(-1), api.ErrDead)
	for _, p := range []api.Page{0, 1, 9, 2*api.MaxPages + 1} {
		if s, e := d.Read(p); s != "" || e != api.ErrDead {
			t.Errorf("Read(%d): %.9q, %d", p, s, e)
		}
	}
	if n, e := d.Mark(); n != 0 || e != api.ErrDead {
		t.Error("Mark:", n, e)
	}
	if s, e := d.ReadLog(); s != "" || e != api.ErrDead {
		t.Error("ReadLog:", s, e)
	}
	wantDead(t, d, true)
	wantCalls(t, d, 5)
	wantLoose(t, d, 0, 0)
	if d.Room() != 8 {
		t.Error("Room:", d.Room())
	}
	if !d.Up() || d.Up() {
		t.Error("Up: true once")
	}
	wantDead(t, d, false)
	wantErr(t, "the fall that none of them met", d.Sync(), api.ErrDead)
	d.Up()
	wantPage(t, d, 1, full('a'))
	wantMark(t, d, 3)
	wantLog(t, d, "log")
}

// 2.4: a nil disk.
func TestNilDisk(t *testing.T) {
	var d *disk.Disk
	d.Plan([]api.Fall{{}})
	d.Crash(api.Fall{Keep: 1, Torn: 1, Bytes: 5, Log: 5})
	wantErr(t, "Write", d.Write(1, full('b')), api.ErrDead)
	wantErr(t, "Write", d.Write(0, ""), api.ErrDead)
	wantErr(t, "SetMark", d.SetMark(4), api.ErrDead)
	wantErr(t, "Sync", d.Sync(), api.ErrDead)
	wantErr(t, "AppendLog", d.AppendLog("x"), api.ErrDead)
	wantErr(t, "SyncLog", d.SyncLog(), api.ErrDead)
	wantErr(t, "CutLog", d.CutLog(0), api.ErrDead)
	wantErr(t, "CutLog", d.CutLog(-1), api.ErrDead)
	if s, e := d.Read(1); s != "" || e != api.ErrDead {
		t.Error("Read:", s, e)
	}
	if n, e := d.Mark(); n != 0 || e != api.ErrDead {
		t.Error("Mark:", n, e)
	}
	if s, e := d.ReadLog(); s != "" || e != api.ErrDead {
		t.Error("ReadLog:", s, e)
	}
	if d.Up() {
		t.Error("Up: true")
	}
	wantDead(t, d, true)
	wantCalls(t, d, 0)
	wantLoose(t, d, 0, 0)
	if n := d.Room(); n != 0 {
		t.Error("Room:", n)
	}
	if c := d.Clone(); c != nil {
		t.Error("Clone:", c)
	}
}
