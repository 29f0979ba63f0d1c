package restart_test

import (
	"fmt"
	"hash/crc32"
	"slices"
	"strings"
	"testing"

	"girder/api"
	"girder/disk"
	"girder/page"
	"girder/pool"
	"girder/rec"
	"girder/restart"
	"girder/txn"
	"girder/wal"
)

const (
	room   = 64 // pages of the disks of these tests, where nothing else is said
	frames = 32 // of their pools

	first = 3 // changes of catalog.Begin: of the map two, of the catalog one
)

func wantErr(t *testing.T, what string, e, want api.Errno) {
	t.Helper()
	if e != want {
		t.Fatalf("%s: %d, not %d", what, e, want)
	}
}

// store is a manager, and all that it stands on.
type store struct {
	*txn.Manager
	d *disk.Disk
	l *wal.Log
	p *pool.Pool
}

// over is a manager over a disk as it is, of which nothing was repeated.
func over(t *testing.T, d *disk.Disk, frames int) store {
	t.Helper()
	l, _, e := wal.Open(d)
	wantErr(t, "wal.Open", e, api.OK)
	p, e := pool.New(d, l, frames)
	wantErr(t, "pool.New", e, api.OK)
	return store{txn.New(p), d, l, p}
}

// empty is a disk on which nothing is.
func empty(t *testing.T, room int) *disk.Disk {
	t.Helper()
	d, e := disk.New(room)
	wantErr(t, "disk.New", e, api.OK)
	return d
}

// opened stands up, and asks for all that the chapter says of it.
func opened(t *testing.T, d *disk.Disk, frames int, picks ...int) (store, api.Risen) {
	t.Helper()
	was := d.Clone()
	m, r, e := restart.Open(d, frames, picks)
	if m == nil || e != api.OK {
		t.Fatalf("Open: %v, %+v, %d", m, r, e)
	}
	s := store{m, d, m.Pool().Log(), m.Pool()}
	if s.p.Disk() != d {
		t.Fatal("it stands on another disk")
	}
	wantStoodUp(t, was, s, r)
	if len(s.All()) > 0 || s.l.Kept() > 0 {
		t.Fatalf("under way: %v; kept: %d", s.All(), s.l.Kept())
	}
	return s, r
}

// wantOpen asks what standing up comes to.
func wantOpen(t *testing.T, what string, d *disk.Disk, want api.Risen) store {
	t.Helper()
	s, r := opened(t, d, frames)
	if r != want {
		t.Errorf("%s: %+v, not %+v", what, r, want)
	}
	return s
}

// fresh is a store that was begun, of which all is on the disk, and the log leads to a checkpoint behind it.
func fresh(t *testing.T) store {
	t.Helper()
	s, _ := opened(t, empty(t, room), frames)
	s.write(t)
	s.take(t)
	return s
}

// write writes all pages, and flushes the log.
func (s store) write(t *testing.T) {
	t.Helper()
	wantErr(t, "WriteAll", s.p.WriteAll(), api.OK)
	s.flush(t)
}

func (s store) flush(t *testing.T) {
	t.Helper()
	wantErr(t, "Flush", s.l.Flush(s.l.End()), api.OK)
}

// falls lets the power fail: what was not synced is gone.
func (s store) falls() *disk.Disk {
	s.d.Crash(api.Fall{})
	s.d.Up()
	return s.d
}

func (s store) begin(t *testing.T) int {
	t.Helper()
	n, e := s.Begin()
	wantErr(t, "Begin", e, api.OK)
	return n
}

// log logs a change of a page.
func (s store) log(t *testing.T, n int, c api.Change) api.LSN {
	t.Helper()
	at, e := s.Log(n, c)
	wantErr(t, "Log", e, api.OK)
	return at
}

// change is a change that is undone by the page.
func change(p api.Page, op api.Op) api.Change {
	return api.Change{Page: p, Op: op, Undo: api.UndoPage}
}

// insert is a change that any page with room takes, whatever stands there: the last one stands first.
func insert(s string) api.Op { return api.Op{Kind: api.OpInsert, S: s} }

// put puts a slot into a page.
func (s store) put(t *testing.T, n int, p api.Page, text string) api.LSN {
	t.Helper()
	return s.log(t, n, change(p, insert(text)))
}

// lay puts a record behind all others, whoever it is of.
func (s store) lay(t *testing.T, r api.Rec) api.LSN {
	t.Helper()
	b, e := rec.Encode(r)
	wantErr(t, "Encode", e, api.OK)
	return s.layBytes(t, b)
}

func (s store) layBytes(t *testing.T, b string) api.LSN {
	t.Helper()
	at, e := s.l.Append(b)
	wantErr(t, "Append", e, api.OK)
	return at
}

// laid is a disk of which the log has records, and nothing else is on it.
func laid(t *testing.T, l ...api.Rec) *disk.Disk {
	t.Helper()
	s := over(t, empty(t, room), frames)
	for _, r := range l {
		s.lay(t, r)
	}
	s.flush(t)
	return s.d
}

// wantSlots asks for a page's slots.
func (s store) wantSlots(t *testing.T, n api.Page, want ...string) {
	t.Helper()
	x, e := s.p.Get(n)
	if e != api.OK || !slices.Equal(x.Slots, want) {
		t.Errorf("page %d: %q, %d, not %q", n, x.Slots, e, want)
	}
}

// placed is a record and its place.
type placed struct {
	at api.LSN
	r  api.Rec
}

// records is all records of a log from a place on.
func records(t *testing.T, l *wal.Log, from api.LSN) []placed {
	t.Helper()
	var all []placed
	for at := from; at < l.End(); {
		s, behind, here := l.Get(at)
		if !here {
			t.Fatalf("no record at %d", at)
		}
		r, e := rec.Decode(s)
		wantErr(t, "Decode", e, api.OK)
		all = append(all, placed{at, r})
		at = behind
	}
	return all
}

// seen is all that is to be seen of a disk, what it would be behind a fall too.
func seen(d *disk.Disk) string {
	var b strings.Builder
	pages, log := d.Loose()
	fmt.Fprint(&b, d.Dead(), d.Calls(), d.Room(), pages, log)
	for _, x := range []*disk.Disk{d.Clone(), d.Clone()} {
		if b.WriteString(" | "); !x.Dead() {
			fmt.Fprint(&b, told(x))
			x.Crash(api.Fall{})
		}
		x.Up()
		fmt.Fprint(&b, told(x))
	}
	return b.String()
}

// told is what a disk tells of its mark, log and pages.
func told(d *disk.Disk) string {
	var b strings.Builder
	mark, e := d.Mark()
	log, err := d.ReadLog()
	fmt.Fprint(&b, mark, e, len(log), crc32.ChecksumIEEE([]byte(log)), err)
	for n := range api.Page(d.Room()) {
		place, _ := d.Read(n + 1)
		twin, _ := d.Read(n + 1 + api.MaxPages)
		fmt.Fprint(&b, " ", crc32.ChecksumIEEE([]byte(place+twin)))
	}
	return b.String()
}

// wantRefused asks that Open tells an error, and nothing else, and that nothing has changed, where a fall is to come neither.
func wantRefused(t *testing.T, what string, d *disk.Disk, frames int, want api.Errno) {
	t.Helper()
	was := seen(d)
	for range 2 {
		if m, r, e := restart.Open(d, frames, []int{1, 2}); m != nil || r != (api.Risen{}) || e != want {
			t.Errorf("%s: %v, %+v, %d, not %d", what, m, r, e, want)
		}
		if is := seen(d); is != was {
			t.Errorf("%s: something was changed:\n%s\n%s", what, was, is)
		}
	}
}

// content is all pages, but their LSNs, which hang on how many records there are.
func (s store) content(t *testing.T) []api.Sheet {
	t.Helper()
	var all []api.Sheet
	for n := range api.Page(s.d.Room()) {
		x, e := s.p.Get(n + 1)
		wantErr(t, "Get", e, api.OK)
		x.LSN = 0
		all = append(all, x)
	}
	return all
}

// wantContent asks for pages.
func (s store) wantContent(t *testing.T, what string, want []api.Sheet) {
	t.Helper()
	for i, x := range s.content(t) {
		if !page.Same(x, want[i]) {
			t.Fatalf("%s: page %d: %+v, not %+v", what, i+1, x, want[i])
		}
	}
}
