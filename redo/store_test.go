package redo_test

import (
	"fmt"
	"hash/crc32"
	"slices"
	"strings"
	"testing"

	"girder/api"
	"girder/disk"
	"girder/page"
	"girder/pool"
	"girder/rec"
	"girder/redo"
	"girder/wal"
)

const (
	room = 16 // pages of the disks of these tests, where nothing else is said
	far  = api.LSN(1<<64 - 1)
)

func wantErr(t *testing.T, what string, e, want api.Errno) {
	t.Helper()
	if e != want {
		t.Errorf("%s: %d, not %d", what, e, want)
	}
}

// store is a pool, and what it stands on.
type store struct {
	d *disk.Disk
	l *wal.Log
	p *pool.Pool
}

// over is a pool over a disk as it is.
func over(t *testing.T, d *disk.Disk, frames int) store {
	t.Helper()
	l, _, e := wal.Open(d)
	wantErr(t, "wal.Open", e, api.OK)
	p, e := pool.New(d, l, frames)
	wantErr(t, "pool.New", e, api.OK)
	return store{d, l, p}
}

// bare is a pool over a new disk.
func bare(t *testing.T, frames int) store {
	t.Helper()
	d, e := disk.New(room)
	wantErr(t, "disk.New", e, api.OK)
	return over(t, d, frames)
}

// put puts a record behind all others.
func (s store) put(t *testing.T, r api.Rec) api.LSN {
	t.Helper()
	b, e := rec.Encode(r)
	if e != api.OK {
		t.Fatalf("Encode: %d, of %+v", e, r)
	}
	return s.bytes(t, b)
}

// puts puts records: their places.
func (s store) puts(t *testing.T, l ...api.Rec) []api.LSN {
	t.Helper()
	var at []api.LSN
	for _, r := range l {
		at = append(at, s.put(t, r))
	}
	return at
}

// bytes puts bytes as a record behind all others.
func (s store) bytes(t *testing.T, b string) api.LSN {
	t.Helper()
	at, e := s.l.Append(b)
	wantErr(t, "Append", e, api.OK)
	return at
}

// lay puts a page on the disk, and lets it be in no frame.
func (s store) lay(t *testing.T, x api.Sheet) {
	t.Helper()
	b, e := page.Encode(x)
	wantErr(t, "Encode", e, api.OK)
	s.layBytes(t, x.Number, b)
}

// layBytes puts bytes on the disk at a page's place and at its twin's.
func (s store) layBytes(t *testing.T, n api.Page, b string) {
	t.Helper()
	wantErr(t, "Write", s.d.Write(n, b), api.OK)
	wantErr(t, "Write", s.d.Write(n+api.MaxPages, b), api.OK)
	wantErr(t, "Sync", s.d.Sync(), api.OK)
}

// sheet is a page of rows.
func sheet(n api.Page, lsn api.LSN, slots ...string) api.Sheet {
	return api.Sheet{Number: n, LSN: lsn, Kind: api.KindHeap, Head: "head", Slots: slots}
}

func equal(a, b api.Sheet) bool { return page.Same(a, b) && a.LSN == b.LSN }

// wantPage asks what a page is, its LSN too.
func (s store) wantPage(t *testing.T, want api.Sheet) {
	t.Helper()
	if x, e := s.p.Get(want.Number); !equal(x, want) || e != api.OK {
		t.Errorf("page %d: %+v, %d, not %+v", want.Number, x, e, want)
	}
}

func (s store) wantDirty(t *testing.T, want ...api.Dirty) {
	t.Helper()
	if is := s.p.Dirty(); !slices.Equal(is, want) {
		t.Errorf("dirty: %v, not %v", is, want)
	}
}

// insert is a change that any page with room takes, whatever stands there: the last one stands first.
func insert(s string) api.Op { return api.Op{Kind: api.OpInsert, S: s} }

func update(n api.Page, op api.Op) api.Rec {
	return api.Rec{Kind: api.RecUpdate, Tx: 3, Prev: 2, Page: n, Op: op, Undo: api.UndoPage}
}

func clr(n api.Page, op api.Op) api.Rec {
	return api.Rec{Kind: api.RecCLR, Tx: 4, Prev: 5, Next: 1, Page: n, Op: op}
}

// both is a change of a page by a record of each kind that has changes, and in each way to undo it.
func both(n api.Page, op api.Op) []api.Rec {
	none, byKey := update(n, op), update(n, op)
	none.Undo, byKey.Undo = api.UndoNone, api.UndoKey
	byKey.Index, byKey.Entry, byKey.Live = 7, api.Entry{Key: "key", RID: api.RID{Page: 9, Slot: 2}}, true
	return []api.Rec{update(n, op), none, byKey, clr(n, op)}
}

// others is a record of each kind that has no change.
func others() []api.Rec {
	return []api.Rec{
		{Kind: api.RecTop, Tx: 3, Next: 1}, {Kind: api.RecCommit, Tx: 3}, {Kind: api.RecAbort, Tx: 3}, {Kind: api.RecEnd, Tx: 3}, {Kind: api.RecBegin},
		{Kind: api.RecCheck, Tx: 9, Txs: []api.TxState{{Tx: 4, State: api.TxActive, Last: 1, Next: 1}}, Dirty: []api.Dirty{{Page: 3, LSN: 1}}},
	}
}

// dirty is pages from one place on.
func dirty(since api.LSN, pages ...api.Page) []api.Dirty {
	var l []api.Dirty
	for _, n := range pages {
		l = append(l, api.Dirty{Page: n, LSN: since})
	}
	return l
}

// logged is all that is to be seen of a log: a sum of its records, and its numbers.
func (s store) logged() string {
	sum := crc32.NewIEEE()
	for at := api.LSN(1); at < s.l.End(); {
		r, behind, _ := s.l.Get(at)
		sum.Write([]byte(r))
		at = behind
	}
	return fmt.Sprint(sum.Sum32(), s.l.End(), s.l.Room(), s.l.Kept(), s.l.Len(), s.l.Master())
}

// look is all that is to be seen of a store.
func (s store) look() string {
	var b strings.Builder
	for _, n := range s.p.Numbers() {
		x, e := s.p.Get(n)
		fmt.Fprintf(&b, "%+v %d ", x, e)
	}
	fetched, written := s.p.Counts()
	log, e := s.d.ReadLog()
	mark, _ := s.d.Mark()
	pages, loose := s.d.Loose()
	fmt.Fprint(&b, s.p.Dirty(), fetched, written, s.l.Flushed(), log, e, mark, pages, loose, s.d.Calls(), s.d.Dead(), s.logged())
	for n := range api.Page(room) {
		place, _ := s.d.Read(n + 1)
		twin, _ := s.d.Read(n + 1 + api.MaxPages)
		fmt.Fprint(&b, " ", crc32.ChecksumIEEE([]byte(place+twin)))
	}
	return b.String()
}

// run is what Run tells; the log, and what is handed in, stay as they are.
func (s store) run(t *testing.T, f api.Found) (int, int, api.Errno) {
	t.Helper()
	given := api.Found{Txs: slices.Clone(f.Txs), Dirty: slices.Clone(f.Dirty), Redo: f.Redo, Most: f.Most, Records: f.Records}
	was := s.logged()
	did, stood, e := redo.Run(s.p, f)
	if e != api.ErrDead && s.logged() != was {
		t.Error("the log was changed")
	}
	if !slices.Equal(f.Txs, given.Txs) || !slices.Equal(f.Dirty, given.Dirty) {
		t.Errorf("%+v was changed, it was %+v", f, given)
	}
	return did, stood, e
}

// wantRun asks what Run tells.
func (s store) wantRun(t *testing.T, what string, f api.Found, did, stood int) {
	t.Helper()
	if d, n, e := s.run(t, f); d != did || n != stood || e != api.OK {
		t.Errorf("%s: %d, %d, %d, not %d and %d", what, d, n, e, did, stood)
	}
}

// wantRefused asks that Run tells an error, and that nothing has changed.
func (s store) wantRefused(t *testing.T, what string, f api.Found, want api.Errno) {
	t.Helper()
	was := s.look()
	for range 2 {
		if did, stood, e := s.run(t, f); did != 0 || stood != 0 || e != want {
			t.Errorf("%s: %d, %d, %d, not %d", what, did, stood, e, want)
		}
		if is := s.look(); is != was {
			t.Errorf("%s: something was changed:\n%s\n%s", what, was, is)
		}
	}
}
