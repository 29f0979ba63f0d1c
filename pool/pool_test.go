package pool_test

import (
	"math"
	"slices"
	"strings"
	"testing"

	"girder/api"
	"girder/disk"
	"girder/page"
	"girder/pool"
	"girder/wal"
)

// room is that of the disks of these tests, where nothing else is said.
const room = 16

func wantErr(t *testing.T, what string, e, want api.Errno) {
	t.Helper()
	if e != want {
		t.Errorf("%s: %d, not %d", what, e, want)
	}
}

// fresh is a new disk, and its log.
func fresh(t *testing.T, room int) (*disk.Disk, *wal.Log) {
	t.Helper()
	d, e := disk.New(room)
	wantErr(t, "disk.New", e, api.OK)
	return d, opened(t, d)
}

func opened(t *testing.T, d *disk.Disk) *wal.Log {
	t.Helper()
	l, _, e := wal.Open(d)
	if l == nil || e != api.OK {
		t.Fatalf("wal.Open: %v, %d", l, e)
	}
	return l
}

// on is a pool that stands on both.
func on(t *testing.T, d *disk.Disk, l *wal.Log, most int) *pool.Pool {
	t.Helper()
	p, e := pool.New(d, l, most)
	if p == nil || e != api.OK {
		t.Fatalf("New: %v, %d", p, e)
	}
	return p
}

// begun is a new disk, its log and a pool of so many frames.
func begun(t *testing.T, most int) (*disk.Disk, *wal.Log, *pool.Pool) {
	t.Helper()
	d, l := fresh(t, room)
	return d, l, on(t, d, l, most)
}

// sheet is a page that has something of everything; another text makes another one.
func sheet(n api.Page, lsn api.LSN, s string) api.Sheet {
	return api.Sheet{Number: n, LSN: lsn, Kind: 2, Head: "of " + s, Slots: []string{s, "", strings.Repeat(s+".", 9)}}
}

// equal tells whether two pages are the same in all; no slots are no slots, however they are told.
func equal(a, b api.Sheet) bool {
	return a.Number == b.Number && a.LSN == b.LSN && a.Kind == b.Kind && a.Head == b.Head && slices.Equal(a.Slots, b.Slots)
}

// coded is a page's bytes.
func coded(t *testing.T, x api.Sheet) string {
	t.Helper()
	s, e := page.Encode(x)
	wantErr(t, "Encode", e, api.OK)
	return s
}

// record puts a record at the log's end.
func record(t *testing.T, l *wal.Log) api.LSN {
	t.Helper()
	at, e := l.Append("record")
	wantErr(t, "Append", e, api.OK)
	return at
}

// put puts pages, each of which must be taken.
func put(t *testing.T, p *pool.Pool, l ...api.Sheet) {
	t.Helper()
	for _, x := range l {
		wantErr(t, "Put", p.Put(x), api.OK)
	}
}

// putNumbers puts pages with some content.
func putNumbers(t *testing.T, p *pool.Pool, l ...api.Page) {
	t.Helper()
	for _, n := range l {
		put(t, p, sheet(n, 0, "some"))
	}
}

func wantPage(t *testing.T, p *pool.Pool, want api.Sheet) {
	t.Helper()
	if x, e := p.Get(want.Number); e != api.OK || !equal(x, want) {
		t.Errorf("Get(%d): %+v, %d, not %+v", want.Number, x, e, want)
	}
}

// wantNone asks for an error of Get, with nothing beside it.
func wantNone(t *testing.T, p *pool.Pool, n api.Page, want api.Errno) {
	t.Helper()
	if x, e := p.Get(n); e != want || !equal(x, api.Sheet{}) {
		t.Errorf("Get(%d): %+v, %d, not %d", n, x, e, want)
	}
}

// wantNumbers asks which pages are in frames, by Numbers and by Has.
func wantNumbers(t *testing.T, p *pool.Pool, want ...api.Page) {
	t.Helper()
	if l := p.Numbers(); !slices.Equal(l, want) {
		t.Errorf("Numbers: %v, not %v", l, want)
	}
	some := []api.Page{0, room + 1, api.MaxPages - 1, api.MaxPages, api.MaxPages + 1, 2 * api.MaxPages, math.MaxUint32}
	for n := range api.Page(room) {
		some = append(some, n, n+api.MaxPages)
	}
	for _, n := range append(some, want...) {
		if p.Has(n) != slices.Contains(want, n) {
			t.Errorf("Has(%d): %v", n, p.Has(n))
		}
	}
}

func wantDirty(t *testing.T, p *pool.Pool, want ...api.Dirty) {
	t.Helper()
	if l := p.Dirty(); !slices.Equal(l, want) {
		t.Errorf("Dirty: %v, not %v", l, want)
	}
}

func wantCounts(t *testing.T, p *pool.Pool, fetched, written int) {
	t.Helper()
	if f, w := p.Counts(); f != fetched || w != written {
		t.Errorf("Counts: %d, %d, not %d, %d", f, w, fetched, written)
	}
}

// wantOnDisk asks for a page's place and its twin.
func wantOnDisk(t *testing.T, d *disk.Disk, n api.Page, place, twin string) {
	t.Helper()
	if s, e := d.Read(n); s != place || e != api.OK {
		t.Errorf("the place of %d: %.40x, %d, not %.40x", n, s, e, place)
	}
	if s, e := d.Read(n + api.MaxPages); s != twin || e != api.OK {
		t.Errorf("the twin of %d: %.40x, %d, not %.40x", n, s, e, twin)
	}
}

// zeros is the bytes of a page that was never written.
func zeros() string { return strings.Repeat("\x00", api.PageBytes) }

// 6.1: a pool has 4 to MaxFrames frames, and stands on a disk and a log.
func TestNew(t *testing.T) {
	d, l := fresh(t, room)
	for _, c := range []struct {
		d    *disk.Disk
		l    *wal.Log
		most int
		want api.Errno
	}{
		{d, l, 4, api.OK}, {d, l, 5, api.OK}, {d, l, api.MaxFrames - 1, api.OK}, {d, l, api.MaxFrames, api.OK},
		{d, l, 3, api.ErrArg}, {d, l, 0, api.ErrArg}, {d, l, -1, api.ErrArg}, {d, l, -4, api.ErrArg},
		{d, l, api.MaxFrames + 1, api.ErrArg}, {d, l, math.MaxInt, api.ErrArg}, {d, l, math.MinInt, api.ErrArg},
		{nil, l, 4, api.ErrArg}, {d, nil, 4, api.ErrArg}, {nil, nil, 4, api.ErrArg}, {nil, nil, 3, api.ErrArg},
	} {
		p, e := pool.New(c.d, c.l, c.most)
		wantErr(t, "New", e, c.want)
		if (p != nil) != (c.want == api.OK) {
			t.Errorf("New(.., %d): %v", c.most, p)
		}
		if c.want != api.OK {
			continue
		}
		if p.Disk() != d || p.Log() != l {
			t.Error("it stands on others")
		}
		wantNumbers(t, p)
		wantDirty(t, p)
		wantCounts(t, p, 0, 0)
	}
	if d.Calls() != 0 {
		t.Error("calls:", d.Calls())
	}
}

// 6.1: a dead disk is no reason not to stand on it.
func TestNewOnDead(t *testing.T) {
	d, l := fresh(t, room)
	d.Crash(api.Fall{})
	p := on(t, d, l, 4)
	wantNone(t, p, 1, api.ErrDead)
	d.Up()
	wantPage(t, p, page.Blank(1))
}

// 6.1: there are as many frames as were asked for: one page more, and one leaves.
func TestFrames(t *testing.T) {
	for _, most := range []int{4, 5, 100, api.MaxFrames} {
		d, l := fresh(t, api.MaxPages)
		p := on(t, d, l, most)
		var all []api.Page
		for n := api.Page(1); int(n) <= most; n++ {
			if n%2 == 0 {
				put(t, p, sheet(n, 0, "x"))
			} else {
				wantPage(t, p, page.Blank(n))
			}
			all = append(all, n)
		}
		wantNumbers(t, p, all...)
		wantPage(t, p, page.Blank(api.MaxPages))
		wantNumbers(t, p, append(all[1:], api.MaxPages)...)
		put(t, p, sheet(api.MaxPages-1, 0, "x"))
		wantNumbers(t, p, append(all[2:most:most], api.MaxPages-1, api.MaxPages)...)
		wantCounts(t, p, (most+1)/2+1, 1)
	}
}

// 6.2: the chapter's example.
func TestExample(t *testing.T) {
	d, _, p := begun(t, 4)
	wantPage(t, p, api.Sheet{Number: 5})
	wantNumbers(t, p, 5)
	wantDirty(t, p)
	wantCounts(t, p, 1, 0)
	if d.Calls() != 0 {
		t.Error("calls:", d.Calls())
	}
}

// 6.2: the numbers that a page may have.
func TestWhichPages(t *testing.T) {
	d, l := fresh(t, api.MaxPages)
	p := on(t, d, l, 4)
	for _, n := range []api.Page{0, api.MaxPages + 1, api.MaxPages + 2, 2 * api.MaxPages, 2*api.MaxPages + 1, math.MaxUint32} {
		wantNone(t, p, n, api.ErrArg)
		wantErr(t, "Put", p.Put(sheet(n, 1, "x")), api.ErrArg)
		wantErr(t, "Put of what does not fit", p.Put(api.Sheet{Number: n, Slots: []string{strings.Repeat("x", 600)}}), api.ErrArg)
		wantErr(t, "Write", p.Write(n), api.OK)
		if p.Drop(n) || p.Has(n) {
			t.Errorf("%d is in a frame", n)
		}
	}
	wantNumbers(t, p)
	wantDirty(t, p)
	wantCounts(t, p, 0, 0)
	for _, n := range []api.Page{1, 2, api.MaxPages - 1, api.MaxPages} {
		wantPage(t, p, page.Blank(n))
		put(t, p, sheet(n, 0, "x"))
		wantPage(t, p, sheet(n, 0, "x"))
		wantErr(t, "Write", p.Write(n), api.OK)
		wantOnDisk(t, d, n, coded(t, sheet(n, 0, "x")), coded(t, sheet(n, 0, "x")))
	}
	wantNumbers(t, p, 1, 2, api.MaxPages-1, api.MaxPages)
	wantCounts(t, p, 4, 4)
}

// 6.2: a page that Encode refuses is not put; what stood in its frame stays.
func TestPutRefused(t *testing.T) {
	d, _, p := begun(t, 4)
	put(t, p, sheet(1, 7, "x"))
	wantPage(t, p, page.Blank(2))
	putNumbers(t, p, 3, 4)
	dirty := p.Dirty()
	p.Picks([]int{2, 3})
	for _, n := range []api.Page{1, 2, 5} {
		for _, c := range []struct {
			x    api.Sheet
			want api.Errno
		}{
			{api.Sheet{Kind: -1}, api.ErrArg},
			{api.Sheet{Kind: 256}, api.ErrArg},
			{api.Sheet{Head: strings.Repeat("h", api.MaxHead+1)}, api.ErrArg},
			{api.Sheet{Slots: make([]string, api.MaxSlots+1)}, api.ErrArg},
			{api.Sheet{Kind: 256, Slots: []string{strings.Repeat("x", 600)}}, api.ErrArg},
			{api.Sheet{Slots: []string{strings.Repeat("x", 484)}}, api.ErrFull},
			{api.Sheet{Head: "h", Slots: []string{strings.Repeat("x", 483)}}, api.ErrFull},
		} {
			c.x.Number, c.x.LSN = n, 1
			wantErr(t, "Put", p.Put(c.x), c.want)
		}
	}
	wantNumbers(t, p, 1, 2, 3, 4)
	wantDirty(t, p, dirty...)
	wantCounts(t, p, 1, 0)
	wantPage(t, p, sheet(1, 7, "x"))
	wantPage(t, p, page.Blank(2))
	if d.Calls() != 0 {
		t.Error("calls:", d.Calls())
	}
	putNumbers(t, p, 5)
	wantNumbers(t, p, 1, 2, 4, 5)
}

// 6.2: the greatest pages that Encode takes are put, and come back from the disk.
func TestPutGreatest(t *testing.T) {
	d, l := fresh(t, room)
	p := on(t, d, l, 4)
	all := []api.Sheet{
		{Number: 1, LSN: math.MaxUint64, Kind: 255, Head: strings.Repeat("h", api.MaxHead), Slots: []string{strings.Repeat("x", 451)}},
		{Number: 2, Slots: make([]string, api.MaxSlots)},
		{Number: 3, Slots: []string{strings.Repeat("\x00", 483)}},
		{Number: 4},
	}
	put(t, p, all...)
	wantErr(t, "WriteAll", p.WriteAll(), api.OK)
	q := on(t, d, l, 4)
	for _, x := range all {
		wantPage(t, p, x)
		wantPage(t, q, x)
	}
}

// 6.2: a page in a frame is told from there: what was put last, whatever the disk has, be it dead.
func TestGetFromFrame(t *testing.T) {
	d, _, p := begun(t, 4)
	wantPage(t, p, page.Blank(3))
	d.Write(3, coded(t, sheet(3, 9, "other")))
	wantPage(t, p, page.Blank(3))
	for _, s := range []string{"a", "b", "c"} {
		put(t, p, sheet(3, 1, s))
		wantPage(t, p, sheet(3, 1, s))
	}
	d.Crash(api.Fall{})
	wantPage(t, p, sheet(3, 1, "c"))
	put(t, p, sheet(3, 1, "d"))
	wantPage(t, p, sheet(3, 1, "d"))
	wantNone(t, p, 4, api.ErrDead)
	wantNumbers(t, p, 3)
	wantCounts(t, p, 1, 0)
}

// 6.2: Drop lets a page go that is clean; a dirty one stays, and one in no frame is none.
func TestDrop(t *testing.T) {
	d, _, p := begun(t, 4)
	wantPage(t, p, page.Blank(1))
	putNumbers(t, p, 2, 3)
	wantErr(t, "Write", p.Write(3), api.OK)
	calls := d.Calls()
	for _, c := range []struct {
		n    api.Page
		want bool
	}{
		{2, false}, {0, false}, {4, false}, {api.MaxPages + 1, false}, {math.MaxUint32, false},
		{1, true}, {1, false}, {3, true}, {3, false}, {2, false},
	} {
		if p.Drop(c.n) != c.want {
			t.Errorf("Drop(%d): not %v", c.n, c.want)
		}
	}
	wantNumbers(t, p, 2)
	wantDirty(t, p, api.Dirty{Page: 2, LSN: 1})
	wantPage(t, p, sheet(2, 0, "some"))
	wantCounts(t, p, 1, 1)
	if d.Calls() != calls {
		t.Error("calls:", d.Calls()-calls)
	}
	wantPage(t, p, sheet(3, 0, "some"))
	wantPage(t, p, page.Blank(1))
	wantCounts(t, p, 3, 1)
	wantErr(t, "Write", p.Write(2), api.OK)
	if !p.Drop(2) {
		t.Error("Drop(2) behind Write: false")
	}
	wantNumbers(t, p, 1, 3)
}

// 6.2: a dropped page leaves room for another one, and takes no pick.
func TestDropMakesRoom(t *testing.T) {
	_, _, p := begun(t, 4)
	for n := api.Page(1); n <= 4; n++ {
		wantPage(t, p, page.Blank(n))
	}
	p.Picks([]int{3})
	p.Drop(2)
	wantPage(t, p, page.Blank(9))
	wantNumbers(t, p, 1, 3, 4, 9)
	wantPage(t, p, page.Blank(10))
	wantNumbers(t, p, 1, 3, 4, 10)
}

// leaving is what is in four frames with the pages 10, 20, 30, 40 when, by these picks, others come.
func leaving(t *testing.T, picks []int, coming ...api.Page) []api.Page {
	t.Helper()
	d, l := fresh(t, 100)
	p := on(t, d, l, 4)
	for _, n := range []api.Page{40, 20, 10, 30} {
		wantPage(t, p, page.Blank(n))
	}
	p.Picks(picks)
	for i, n := range coming {
		if i%2 == 0 {
			wantPage(t, p, page.Blank(n))
		} else {
			put(t, p, sheet(n, 0, "x"))
		}
	}
	return p.Numbers()
}

// 6.1, 6.2: which page leaves: by rising numbers the one at the pick's place, modulo how many there are; the first, when no pick is left.
func TestWhoLeaves(t *testing.T) {
	for _, c := range []struct {
		picks  []int
		coming []api.Page
		want   []api.Page
	}{
		{nil, nil, []api.Page{10, 20, 30, 40}},
		{nil, []api.Page{50}, []api.Page{20, 30, 40, 50}},
		{[]int{}, []api.Page{5}, []api.Page{5, 20, 30, 40}},
		{nil, []api.Page{5, 6}, []api.Page{6, 20, 30, 40}},
		{[]int{0}, []api.Page{50}, []api.Page{20, 30, 40, 50}},
		{[]int{1}, []api.Page{50}, []api.Page{10, 30, 40, 50}},
		{[]int{2}, []api.Page{50}, []api.Page{10, 20, 40, 50}},
		{[]int{3}, []api.Page{50}, []api.Page{10, 20, 30, 50}},
		{[]int{4}, []api.Page{50}, []api.Page{20, 30, 40, 50}},
		{[]int{5}, []api.Page{50}, []api.Page{10, 30, 40, 50}},
		{[]int{-1}, []api.Page{50}, []api.Page{10, 20, 30, 50}},
		{[]int{-2}, []api.Page{50}, []api.Page{10, 20, 40, 50}},
		{[]int{-3}, []api.Page{50}, []api.Page{10, 30, 40, 50}},
		{[]int{-4}, []api.Page{50}, []api.Page{20, 30, 40, 50}},
		{[]int{-5}, []api.Page{50}, []api.Page{10, 20, 30, 50}},
		{[]int{math.MaxInt}, []api.Page{50}, []api.Page{10, 20, 30, 50}},
		{[]int{math.MinInt}, []api.Page{50}, []api.Page{20, 30, 40, 50}},
		{[]int{math.MinInt + 1}, []api.Page{50}, []api.Page{10, 30, 40, 50}},
		{[]int{3, 3, 1}, []api.Page{50, 60, 70}, []api.Page{10, 30, 60, 70}},
		{[]int{2}, []api.Page{50, 60, 70}, []api.Page{40, 50, 60, 70}},
		{[]int{-1, -1, -1}, []api.Page{5, 6, 7}, []api.Page{5, 6, 7, 10}},
		{[]int{1, 2}, []api.Page{20, 30, 20}, []api.Page{10, 20, 30, 40}},
	} {
		if got := leaving(t, c.picks, c.coming...); !slices.Equal(got, c.want) {
			t.Errorf("picks %v, coming %v: %v, not %v", c.picks, c.coming, got, c.want)
		}
	}
}

// 6.1: of frames that are not four in number the modulo is by how many there are.
func TestWhoLeavesOfMore(t *testing.T) {
	for _, most := range []int{5, 7, api.MaxFrames} {
		for _, pick := range []int{0, 1, 4, 6, 255, 256, 257, 1000, -1, -5, -7, -256, -1000} {
			d, l := fresh(t, api.MaxPages)
			p := on(t, d, l, most)
			var want []api.Page
			for n := api.Page(1); int(n) <= most; n++ {
				wantPage(t, p, page.Blank(n))
				if (int(n)-1-pick)%most != 0 {
					want = append(want, n)
				}
			}
			p.Picks([]int{pick})
			wantPage(t, p, page.Blank(2000))
			if got := p.Numbers(); !slices.Equal(got, append(want, 2000)) {
				t.Errorf("%d frames, pick %d: %v", most, pick, got)
			}
		}
	}
}

// 6.1: picks are taken in order, one for each page that leaves, and laid anew they stand in the place of those that are left.
func TestPicks(t *testing.T) {
	_, _, p := begun(t, 4)
	for n := api.Page(1); n <= 4; n++ {
		wantPage(t, p, page.Blank(n))
	}
	handed := []int{3, 3, 3, 3}
	p.Picks(handed)
	clear(handed)
	wantPage(t, p, page.Blank(5))
	wantNumbers(t, p, 1, 2, 3, 5)
	wantPage(t, p, page.Blank(3))
	put(t, p, sheet(2, 0, "x"))
	wantPage(t, p, page.Blank(6))
	wantNumbers(t, p, 1, 2, 3, 6)
	p.Picks([]int{1})
	wantPage(t, p, page.Blank(7))
	wantNumbers(t, p, 1, 3, 6, 7)
	wantPage(t, p, page.Blank(8))
	wantNumbers(t, p, 3, 6, 7, 8)
	p.Picks([]int{2, 2})
	p.Picks(nil)
	wantPage(t, p, page.Blank(9))
	wantNumbers(t, p, 6, 7, 8, 9)
	p.Picks([]int{2, 2, 2}[:1])
	wantPage(t, p, page.Blank(10))
	wantNumbers(t, p, 6, 7, 9, 10)
	wantPage(t, p, page.Blank(11))
	wantNumbers(t, p, 7, 9, 10, 11)
}

// 6.3: of a dirty page the first change since it was written is told; 1, if that was 0.
func TestDirty(t *testing.T) {
	_, _, p := begun(t, 4)
	wantPage(t, p, page.Blank(3))
	wantDirty(t, p)
	put(t, p, sheet(3, 7, "a"))
	put(t, p, sheet(2, 0, "a"))
	put(t, p, sheet(1, math.MaxUint64, "a"))
	put(t, p, sheet(9, 1, "a"))
	first := []api.Dirty{{Page: 1, LSN: math.MaxUint64}, {Page: 2, LSN: 1}, {Page: 3, LSN: 7}, {Page: 9, LSN: 1}}
	wantDirty(t, p, first...)
	for _, lsn := range []api.LSN{20, 3, 0} {
		for _, n := range []api.Page{1, 2, 3, 9} {
			put(t, p, sheet(n, lsn, "b"))
			wantPage(t, p, sheet(n, lsn, "b"))
		}
		wantDirty(t, p, first...)
	}
	wantErr(t, "Write", p.Write(3), api.OK)
	wantErr(t, "Write", p.Write(2), api.OK)
	wantDirty(t, p, first[0], first[3])
	put(t, p, sheet(3, 20, "c"))
	put(t, p, sheet(3, 30, "d"))
	put(t, p, sheet(2, 0, "c"))
	wantDirty(t, p, first[0], api.Dirty{Page: 2, LSN: 1}, api.Dirty{Page: 3, LSN: 20}, first[3])
	wantErr(t, "WriteAll", p.WriteAll(), api.OK)
	wantDirty(t, p)
	put(t, p, sheet(9, 40, "e"))
	wantDirty(t, p, api.Dirty{Page: 9, LSN: 40})
}

// 6.2, 6.3: a page that is put as it was is dirty all the same.
func TestPutTheSame(t *testing.T) {
	_, _, p := begun(t, 4)
	x, _ := p.Get(5)
	put(t, p, x)
	wantDirty(t, p, api.Dirty{Page: 5, LSN: 1})
	wantErr(t, "Write", p.Write(5), api.OK)
	put(t, p, x)
	wantDirty(t, p, api.Dirty{Page: 5, LSN: 1})
	wantCounts(t, p, 1, 1)
}

// 6.3: on a nil Pool nothing can be done, and nothing is there.
func TestNil(t *testing.T) {
	var p *pool.Pool
	for _, n := range []api.Page{0, 1, api.MaxPages, api.MaxPages + 1, math.MaxUint32} {
		wantNone(t, p, n, api.ErrArg)
		wantErr(t, "Put", p.Put(sheet(n, 1, "x")), api.ErrArg)
		wantErr(t, "Write", p.Write(n), api.ErrArg)
		if p.Drop(n) || p.Has(n) {
			t.Errorf("%d is there", n)
		}
	}
	wantErr(t, "Put of what does not fit", p.Put(api.Sheet{Number: 1, Slots: []string{strings.Repeat("x", 600)}}), api.ErrArg)
	wantErr(t, "WriteAll", p.WriteAll(), api.ErrArg)
	p.Picks([]int{1})
	p.Picks(nil)
	if p.Numbers() != nil || p.Dirty() != nil || p.Log() != nil || p.Disk() != nil {
		t.Error("something is there")
	}
	wantCounts(t, p, 0, 0)
}
