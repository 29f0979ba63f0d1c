package smo_test

import (
	"strings"
	"testing"

	"girder/api"
	"girder/page"
	"girder/smo"
	"girder/space"
)

// filler is what records begin with that only fill the log: no record of the program does.
const filler = "\xff"

// leave keeps so much of the log that just so many bytes are free.
func (s store) leave(t *testing.T, free int) {
	t.Helper()
	wantErr(t, "Keep", s.l.Keep(s.l.Room()-s.l.Kept()-free), api.OK)
}

// fill puts records into the log until just so many bytes are free beside what is kept.
func (s store) fill(t *testing.T, free int) {
	t.Helper()
	const least = api.FrameBytes + 1
	for left := s.l.Room() - s.l.Kept() - free; left >= least; left = s.l.Room() - s.l.Kept() - free {
		n := min(left, api.FrameBytes+api.MaxRecord)
		if rest := left - n; rest > 0 && rest < least {
			n -= least
		}
		_, e := s.l.Append(strings.Repeat(filler, n-api.FrameBytes))
		wantErr(t, "Append", e, api.OK)
	}
}

// claimAll takes all pages of the disk that are free, but for some.
func (s store) claimAll(t *testing.T, left int) {
	t.Helper()
	n := s.begin(t)
	for p := api.Page(s.d.Room()); p > 0; p-- {
		x := s.get(t, api.MapPage)
		if space.Taken(x, p) || space.Count(x) >= s.d.Room()-left {
			continue
		}
		op, e := space.Claim(x, p)
		wantErr(t, "Claim", e, api.OK)
		_, e = s.Log(n, api.Change{Page: api.MapPage, Op: op})
		wantErr(t, "Log", e, api.OK)
	}
	s.commit(t, n)
}

// 14.3: a disk that is full, in the midst: what was nested and ended stays, all else is taken back; what was there ahead is there.
func TestDiskFull(t *testing.T) {
	leaf := lives(wides(0, 6)...)
	for _, c := range []struct {
		left int
		want []api.Sheet // behind that
	}{
		{0, []api.Sheet{leafOf(3, 0, leaf...)}},
		// The root grew, and its child is not cut in two.
		{1, []api.Sheet{innerOf(3, 1, child(4, at(""))), leafOf(4, 0, leaf...)}},
	} {
		s := planted(t, leafOf(3, 0, leaf...))
		s.claimAll(t, c.left)
		n := s.begin(t)
		to := s.save(t, n)
		wantErr(t, "Insert", smo.Insert(s.Manager, n, 3, wide(6), nil), api.ErrSpace)
		s.back(t, n, to)
		s.wantPage(t, c.want...)
		s.wantTree(t, 3, leaf...)
		// It goes on: what needs no room is done.
		s.delete(t, n, 3, wide(2))
		s.wantFails(t, "Insert", api.ErrSpace, func() api.Errno { return smo.Insert(s.Manager, n, 3, wide(6), nil) })
		wantErr(t, "Insert", smo.Insert(s.Manager, n, 3, wide(6), all), api.OK)
		want := append(append(lives(wides(0, 2)...), lives(wides(3, 6)...)...), live(wide(6)))
		s.wantTree(t, 3, want...)
		s.delete(t, n, 3, wide(4))
		s.wantClean(t, n, 3, all, 1, c.left)
		s.commit(t, n)
		if is := space.Count(s.get(t, api.MapPage)); is != s.d.Room()-c.left {
			t.Error("taken:", is)
		}
	}
}

// 14.3: likewise in a greater tree, until nothing can be put in any more: each goes back, and what stands there stays.
func TestDiskFills(t *testing.T) {
	for disk := 8; disk < 40; disk += 3 {
		s := laid(t, disk, 5, 2)
		n := s.begin(t)
		root := s.create(t, n)
		has := items{}
		failed := 0
		for i := range 200 {
			en := wide(i * 73 % 200)
			to := s.save(t, n)
			e := smo.Insert(s.Manager, n, root, en, nil)
			switch e {
			case api.OK:
				has[en] = true
			case api.ErrSpace:
				failed++
				s.back(t, n, to)
			default:
				t.Fatal("Insert:", e)
			}
			s.wantWhole(t, root, has.list()...)
		}
		if failed == 0 || space.Count(s.get(t, api.MapPage)) != disk {
			t.Error("the disk was not full:", disk, failed)
		}
		s.abort(t, n)
		if s.l.Kept() != 0 {
			t.Error("kept:", s.l.Kept())
		}
	}
}

// 14.3: what is taken back needs no page: on a disk that is full all goes back, though leaves are full.
func TestBackOnFullDisk(t *testing.T) {
	s := laid(t, 12, 4, 2)
	lay := s.begin(t)
	root := s.create(t, lay)
	s.insert(t, lay, root, wides(0, 12)...)
	s.commit(t, lay)
	n := s.begin(t)
	s.delete(t, n, root, wides(0, 12)...)
	i := 12
	for ; ; i++ {
		to := s.save(t, n)
		if e := smo.Insert(s.Manager, n, root, wide(i), nil); e != api.OK {
			wantErr(t, "Insert", e, api.ErrSpace)
			s.back(t, n, to)
			break
		}
	}
	s.abort(t, n)
	s.wantWhole(t, root, append(lives(wides(0, 12)...), ghosts(wides(12, i)...)...)...)
}

// midst is a tree and a call that has much to do: full pages on all levels, or leaves that go.
type midst struct {
	what string
	lay  func(t *testing.T) (store, api.Page)
	call func(s store, n int, root api.Page) api.Errno
}

// midsts is such calls.
func midsts() []midst {
	full := func(t *testing.T) (store, api.Page) {
		sheets, _ := crowd(3, 420)
		// The last leaf is full, too.
		last := &sheets[6]
		for i := range 6 {
			last.Slots = append(last.Slots, itemBytes(live(entry("7"+strings.Repeat("x", api.MaxKey-1), 1, i))))
		}
		last.Slots = last.Slots[1:]
		return planted(t, sheets...), 3
	}
	return []midst{
		{"Insert", full, func(s store, n int, root api.Page) api.Errno {
			return smo.Insert(s.Manager, n, root, at("8"), nil)
		}},
		{"Insert that cleans", func(t *testing.T) (store, api.Page) {
			return planted(t, leafOf(3, 0, append(ghosts(wides(0, 3)...), lives(wides(3, 6)...)...)...)), 3
		}, func(s store, n int, root api.Page) api.Errno {
			return smo.Insert(s.Manager, n, root, wide(8), only(1, 2))
		}},
		{"Clean", func(t *testing.T) (store, api.Page) { return grove(t, 3), 3 }, func(s store, n int, root api.Page) api.Errno {
			g, p, e := smo.Clean(s.Manager, n, root, all)
			if e != api.OK && (g != 0 || p != 0) {
				return 777
			}
			return e
		}},
		{"Create", full, func(s store, n int, root api.Page) api.Errno {
			r, e := smo.Create(s.Manager, n)
			if e != api.OK && r != 0 {
				return 777
			}
			return e
		}},
		{"Delete", full, func(s store, n int, root api.Page) api.Errno { return smo.Delete(s.Manager, n, root, entry("", 0, 1)) }},
	}
}

// liveOf is the live entries of a tree that is well formed, whose pages are taken.
func (s store) liveOf(t *testing.T, root api.Page) []api.Entry {
	t.Helper()
	var l []api.Entry
	for _, n := range s.pagesOf(t, root) {
		if !space.Taken(s.get(t, api.MapPage), n) {
			t.Errorf("page %d is in the tree, and free", n)
		}
	}
	for _, x := range s.itemsOf(t, root) {
		if x.Live {
			l = append(l, x.Entry)
		}
	}
	return l
}

// 14.3, T4: a log that is full in the midst, wherever that is: the call says so, what it did is taken back in what is kept, and the tree has what it had; what is nested goes wholly or not at all.
func TestLogFullInTheMidst(t *testing.T) {
	for _, c := range midsts() {
		failed, shapes := 0, map[int]bool{}
		for free := 0; ; free += 37 {
			s, root := c.lay(t)
			was := s.liveOf(t, root)
			had, pages := s.look(t), len(s.pagesOf(t, root))
			n := s.begin(t)
			to := s.save(t, n)
			// To fill it by records takes its time.
			if failed%16 == 1 {
				s.fill(t, free)
			} else {
				s.leave(t, free)
			}
			e := c.call(s, n, root)
			if e == api.OK {
				break
			}
			failed++
			wantErr(t, c.what, e, api.ErrLog)
			s.back(t, n, to)
			s.wantLive(t, root, was)
			is := len(s.pagesOf(t, root))
			shapes[is] = true
			if is == pages && c.what == "Insert" {
				// Pages that were taken in vain are blank again, too.
				s.wantSamePages(t, c.what, had)
			}
			if at := s.save(t, n); at != to {
				t.Errorf("Save: %d, not %d", at, to)
			}
			s.abort(t, n)
			s.wantLive(t, root, was)
			if t.Failed() {
				t.Fatal(c.what, "free:", free)
			}
		}
		if failed < 3 || c.what == "Insert" && len(shapes) < 4 || c.what == "Clean" && len(shapes) < 5 {
			t.Error(c.what, "failed:", failed, "pages:", shapes)
		}
	}
}

// 14.3, T4: however full the log is, all that are under way go back.
func TestBackInFullLog(t *testing.T) {
	for free := 0; free < 3000; free += 211 {
		s := begun(t)
		lay := s.begin(t)
		root := s.create(t, lay)
		s.insert(t, lay, root, wides(0, 10)...)
		s.commit(t, lay)
		a, b := s.begin(t), s.begin(t)
		s.fill(t, 20000+free)
		for i := 10; ; i += 2 {
			to := s.save(t, a)
			if e := smo.Insert(s.Manager, a, root, wide(i), nil); e != api.OK {
				wantErr(t, "Insert", e, api.ErrLog)
				s.back(t, a, to)
				break
			}
			to = s.save(t, b)
			if e := smo.Insert(s.Manager, b, root, wide(i+1), nil); e != api.OK {
				wantErr(t, "Insert", e, api.ErrLog)
				s.back(t, b, to)
				break
			}
			if i < 20 {
				if e := smo.Delete(s.Manager, b, root, wide(i-10)); e != api.OK {
					wantErr(t, "Delete", e, api.ErrLog)
				}
			}
		}
		// Nothing is left for anybody else.
		s.fill(t, 0)
		s.abort(t, b)
		s.abort(t, a)
		s.wantLive(t, root, wides(0, 10))
		if s.l.Kept() != 0 || len(s.All()) != 0 {
			t.Errorf("kept: %d, under way: %v", s.l.Kept(), s.All())
		}
		if t.Failed() {
			t.Fatal("free:", free)
		}
	}
}

// 14.1: Create whose page is taken and can't be formatted: the caller takes it back.
func TestCreateInTheMidst(t *testing.T) {
	met := 0
	for free := range 600 {
		s := begun(t)
		n := s.begin(t)
		s.leave(t, free)
		root, e := smo.Create(s.Manager, n)
		if e == api.OK {
			break
		}
		if root != 0 || e != api.ErrLog {
			t.Fatal("Create:", root, e)
		}
		if at := s.save(t, n); at != 0 {
			met++
		}
		s.abort(t, n)
		s.wantTaken(t, 1, 2)
		s.wantPage(t, page.Blank(3))
	}
	if met == 0 {
		t.Error("no error came in the midst")
	}
}
