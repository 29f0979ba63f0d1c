package smo_test

import (
	"encoding/binary"
	"fmt"
	"slices"
	"strings"
	"testing"

	"girder/api"
	"girder/disk"
	"girder/page"
	"girder/pool"
	"girder/rec"
	"girder/smo"
	"girder/space"
	"girder/tree"
	"girder/txn"
	"girder/wal"
)

const (
	room   = 64 // pages of the disks of these tests, where nothing else is said
	frames = 64 // of their pools
)

func wantErr(t *testing.T, what string, e, want api.Errno) {
	t.Helper()
	if e != want {
		t.Errorf("%s: %d, not %d", what, e, want)
	}
}

// store is a manager, and all that it stands on.
type store struct {
	*txn.Manager
	d *disk.Disk
	l *wal.Log
	p *pool.Pool
}

// over is a manager over a disk as it is.
func over(t *testing.T, d *disk.Disk, frames int) store {
	t.Helper()
	l, _, e := wal.Open(d)
	wantErr(t, "wal.Open", e, api.OK)
	p, e := pool.New(d, l, frames)
	wantErr(t, "pool.New", e, api.OK)
	return store{Manager: txn.New(p), d: d, l: l, p: p}
}

// bare is a manager over a new disk, with nothing on it.
func bare(t *testing.T, room, frames int) store {
	t.Helper()
	d, e := disk.New(room)
	wantErr(t, "disk.New", e, api.OK)
	return over(t, d, frames)
}

// laid is a manager over a new disk on which a map stands, in which the first pages are taken.
func laid(t *testing.T, room, frames, taken int) store {
	t.Helper()
	s := bare(t, room, frames)
	ops, e := space.Fresh(taken)
	wantErr(t, "Fresh", e, api.OK)
	n := s.begin(t)
	for _, op := range ops {
		_, e := s.Log(n, api.Change{Page: api.MapPage, Op: op})
		wantErr(t, "Log", e, api.OK)
	}
	s.commit(t, n)
	return s
}

// begun is a manager as most tests need it: of the map's pages two are taken.
func begun(t *testing.T) store {
	t.Helper()
	return laid(t, room, frames, 2)
}

// planted is such a manager with pages that were laid by hand and are taken.
func planted(t *testing.T, l ...api.Sheet) store {
	t.Helper()
	s := begun(t)
	n := s.begin(t)
	for _, x := range l {
		wantErr(t, "pool.Put", s.p.Put(x), api.OK)
		op, e := space.Claim(s.get(t, api.MapPage), x.Number)
		wantErr(t, "Claim", e, api.OK)
		_, e = s.Log(n, api.Change{Page: api.MapPage, Op: op})
		wantErr(t, "Log", e, api.OK)
	}
	s.commit(t, n)
	return s
}

func (s store) begin(t *testing.T) int {
	t.Helper()
	n, e := s.Begin()
	if e != api.OK {
		t.Fatal("Begin:", e)
	}
	return n
}

func (s store) commit(t *testing.T, n int) {
	t.Helper()
	wantErr(t, "Commit", s.Commit(n), api.OK)
}

func (s store) abort(t *testing.T, n int) {
	t.Helper()
	wantErr(t, "Abort", s.Abort(n, s.undo), api.OK)
}

// save is a savepoint.
func (s store) save(t *testing.T, n int) api.LSN {
	t.Helper()
	at, e := s.Save(n)
	wantErr(t, "Save", e, api.OK)
	return at
}

// back goes back to a savepoint.
func (s store) back(t *testing.T, n int, to api.LSN) {
	t.Helper()
	wantErr(t, "Rollback", s.Rollback(n, to, s.undo), api.OK)
}

// undo takes a record back, as the document's chapter of undo says: an entry by its key, the map by its bit, all else by the inverse.
func (s store) undo(n int, r api.Rec) api.Errno {
	if r.Undo == api.UndoKey {
		return smo.Undo(s.Manager, n, api.Page(r.Index), r.Entry, r.Live, r.Prev)
	}
	op := page.Inverse(r.Op)
	if r.Page == api.MapPage && r.Op.Kind == api.OpPut {
		x, e := s.p.Get(api.MapPage)
		if e != api.OK {
			return e
		}
		is := x.Slots[0][r.Op.At]
		op.Old, op.S = string([]byte{is}), string([]byte{is ^ r.Op.S[0] ^ r.Op.Old[0]})
	}
	_, e := s.Compensate(n, r.Page, op, r.Prev)
	return e
}

// get is a page.
func (s store) get(t *testing.T, n api.Page) api.Sheet {
	t.Helper()
	x, e := s.p.Get(n)
	if e != api.OK {
		t.Fatalf("page %d: %d", n, e)
	}
	return x
}

// create begins a tree.
func (s store) create(t *testing.T, n int) api.Page {
	t.Helper()
	root, e := smo.Create(s.Manager, n)
	if e != api.OK {
		t.Fatal("Create:", e)
	}
	return root
}

// insert puts entries in, without cleaning anything.
func (s store) insert(t *testing.T, n int, root api.Page, l ...api.Entry) {
	t.Helper()
	for _, en := range l {
		if e := smo.Insert(s.Manager, n, root, en, nil); e != api.OK {
			t.Fatalf("Insert(%v): %d", en, e)
		}
	}
}

// delete takes entries out.
func (s store) delete(t *testing.T, n int, root api.Page, l ...api.Entry) {
	t.Helper()
	for _, en := range l {
		if e := smo.Delete(s.Manager, n, root, en); e != api.OK {
			t.Fatalf("Delete(%v): %d", en, e)
		}
	}
}

// wantClean cleans, and asks how many ghosts and pages go.
func (s store) wantClean(t *testing.T, n int, root api.Page, free func(api.RID) bool, ghosts, pages int) {
	t.Helper()
	if g, p, e := smo.Clean(s.Manager, n, root, free); g != ghosts || p != pages || e != api.OK {
		t.Errorf("Clean: %d, %d, %d, not %d, %d", g, p, e, ghosts, pages)
	}
}

// all is a free that answers true, none one that answers false.
func all(api.RID) bool  { return true }
func none(api.RID) bool { return false }

// only is a free that answers true of places with these slots.
func only(slots ...int) func(api.RID) bool {
	return func(r api.RID) bool { return slices.Contains(slots, r.Slot) }
}

// entry is a key and a place.
func entry(key string, n api.Page, slot int) api.Entry {
	return api.Entry{Key: key, RID: api.RID{Page: n, Slot: slot}}
}

// at is the entry of a key at the place zero.
func at(key string) api.Entry { return entry(key, 0, 0) }

// wide is an entry with the longest key, of which six fill a leaf; its place has the slot i.
func wide(i int) api.Entry {
	return entry(fmt.Sprintf("%04d", i)+strings.Repeat("w", api.MaxKey-4), 9, i)
}

// wides is such entries from one number up to, without it, another one.
func wides(from, to int) []api.Entry {
	var l []api.Entry
	for i := from; i < to; i++ {
		l = append(l, wide(i))
	}
	return l
}

func live(e api.Entry) api.Item                  { return api.Item{Entry: e, Live: true} }
func ghost(e api.Entry) api.Item                 { return api.Item{Entry: e} }
func head4(next api.Page) string                 { return string(binary.LittleEndian.AppendUint32(nil, uint32(next))) }
func child(n api.Page, from api.Entry) api.Child { return api.Child{Page: n, From: from} }

// lives is live items.
func lives(l ...api.Entry) []api.Item {
	var items []api.Item
	for _, en := range l {
		items = append(items, live(en))
	}
	return items
}

// ghosts is items that are ghosts.
func ghosts(l ...api.Entry) []api.Item {
	var items []api.Item
	for _, en := range l {
		items = append(items, ghost(en))
	}
	return items
}

// entryBytes is an entry by the words of chapter 12: Page 4, Slot 2, the key.
func entryBytes(e api.Entry) string {
	b := binary.LittleEndian.AppendUint32(nil, uint32(e.RID.Page))
	b = binary.LittleEndian.AppendUint16(b, uint16(e.RID.Slot))
	return string(append(b, e.Key...))
}

// itemBytes is an item by the words of chapter 12.
func itemBytes(x api.Item) string {
	if x.Live {
		return "\x01" + entryBytes(x.Entry)
	}
	return "\x00" + entryBytes(x.Entry)
}

// childBytes is a child by the words of chapter 12.
func childBytes(c api.Child) string { return head4(c.Page) + entryBytes(c.From) }

// leafOf is a leaf, its bytes laid by hand.
func leafOf(n, next api.Page, l ...api.Item) api.Sheet {
	x := api.Sheet{Number: n, LSN: 1, Kind: api.KindLeaf, Head: head4(next)}
	for _, y := range l {
		x.Slots = append(x.Slots, itemBytes(y))
	}
	return x
}

// innerOf is an inner page, its bytes laid by hand.
func innerOf(n api.Page, level byte, l ...api.Child) api.Sheet {
	x := api.Sheet{Number: n, LSN: 1, Kind: api.KindInner, Head: string([]byte{level})}
	for _, y := range l {
		x.Slots = append(x.Slots, childBytes(y))
	}
	return x
}

// wantPage asks for what stands in pages, but their LSNs.
func (s store) wantPage(t *testing.T, l ...api.Sheet) {
	t.Helper()
	for _, want := range l {
		if x := s.get(t, want.Number); !page.Same(x, want) {
			t.Errorf("page %d: %#v, not %#v", want.Number, x, want)
		}
	}
}

// wantTaken asks which pages are taken.
func (s store) wantTaken(t *testing.T, want ...api.Page) {
	t.Helper()
	if l := space.All(s.get(t, api.MapPage)); !slices.Equal(l, want) {
		t.Errorf("taken: %v, not %v", l, want)
	}
}

// upTo is the pages from 1 on.
func upTo(n api.Page) []api.Page {
	var l []api.Page
	for p := api.Page(1); p <= n; p++ {
		l = append(l, p)
	}
	return l
}

// wantTree asks for a tree that is well formed, that has just these items, and whose pages are all taken; its pages.
func (s store) wantTree(t *testing.T, root api.Page, want ...api.Item) []api.Page {
	t.Helper()
	pages, e := tree.Check(s.p, root)
	wantErr(t, "Check", e, api.OK)
	for _, n := range pages {
		if !space.Taken(s.get(t, api.MapPage), n) {
			t.Errorf("page %d is in the tree, and free", n)
		}
	}
	if l, e := tree.All(s.p, root); e != api.OK || !slices.Equal(l, want) {
		t.Errorf("All: %v, %d, not %v", l, e, want)
	}
	return pages
}

// wantWhole asks likewise, and that no other page is taken, but the first two.
func (s store) wantWhole(t *testing.T, root api.Page, want ...api.Item) []api.Page {
	t.Helper()
	pages := s.wantTree(t, root, want...)
	if l := space.All(s.get(t, api.MapPage)); len(l) != len(pages)+2 {
		t.Errorf("taken: %v; the tree has %v", l, pages)
	}
	return pages
}

// levels is how many pages stand on the way down a tree.
func (s store) levels(t *testing.T, root api.Page) int {
	t.Helper()
	way, e := tree.Path(s.p, root, at(""))
	wantErr(t, "Path", e, api.OK)
	return len(way)
}

// seen is all that a store tells: its pages, its log, its transactions.
type seen struct {
	pages           []api.Sheet
	all             []api.TxState
	end             api.LSN
	kept, log, most int
}

func (s store) look(t *testing.T) seen {
	t.Helper()
	x := seen{all: s.All(), end: s.l.End(), kept: s.l.Kept(), log: s.l.Len(), most: s.Coming()}
	for n := range api.Page(s.d.Room()) {
		x.pages = append(x.pages, s.get(t, n+1))
	}
	return x
}

// wantSame asks that nothing has changed.
func (s store) wantSame(t *testing.T, what string, was seen) {
	t.Helper()
	is := s.look(t)
	if is.end != was.end || is.kept != was.kept || is.log != was.log || is.most != was.most || !slices.Equal(is.all, was.all) {
		t.Errorf("%s: log and transactions: %d, %d, %d, %v; were %d, %d, %d, %v", what, is.end, is.kept, is.log, is.all, was.end, was.kept, was.log, was.all)
	}
	s.wantSamePages(t, what, was)
}

// wantSamePages asks that what stands in the pages has not changed.
func (s store) wantSamePages(t *testing.T, what string, was seen) {
	t.Helper()
	for i, x := range was.pages {
		if y := s.get(t, x.Number); !page.Same(x, y) {
			t.Errorf("%s: page %d: %#v was %#v", what, i+1, y, x)
		}
	}
}

// wantFails asks that a call answers an error and changes nothing.
func (s store) wantFails(t *testing.T, what string, want api.Errno, call func() api.Errno) {
	t.Helper()
	was := s.look(t)
	wantErr(t, what, call(), want)
	s.wantSame(t, what, was)
}

// placed is a record and its place.
type placed struct {
	at api.LSN
	r  api.Rec
}

// records is all records of a log from a place on, but those that only fill it.
func records(t *testing.T, l *wal.Log, from api.LSN) []placed {
	t.Helper()
	var all []placed
	for at := from; at != l.End(); {
		s, next, here := l.Get(at)
		if !here {
			t.Fatalf("no record at %d", at)
		}
		if !strings.HasPrefix(s, filler) {
			r, e := rec.Decode(s)
			wantErr(t, "rec.Decode", e, api.OK)
			all = append(all, placed{at, r})
		}
		at = next
	}
	return all
}

// 14.1: the root is the least free page, a leaf without items and without a next one.
func TestCreate(t *testing.T) {
	s := begun(t)
	n := s.begin(t)
	if root := s.create(t, n); root != 3 {
		t.Error("Create:", root)
	}
	s.wantPage(t, leafOf(3, 0))
	s.wantTaken(t, 1, 2, 3)
	s.wantWhole(t, 3)
	if root := s.create(t, n); root != 4 {
		t.Error("Create:", root)
	}
	s.wantPage(t, leafOf(3, 0), leafOf(4, 0))
	s.wantTaken(t, 1, 2, 3, 4)
	s.commit(t, n)
	s.wantTree(t, 4)
}

// 14.1: a page that had something is a leaf without items, too.
func TestCreateOnUsedPage(t *testing.T) {
	s := begun(t)
	wantErr(t, "Put", s.p.Put(leafOf(3, 7, live(at("a")))), api.OK)
	n := s.begin(t)
	if root := s.create(t, n); root != 3 {
		t.Error("Create:", root)
	}
	s.wantPage(t, leafOf(3, 0))
}

// 14.1: both changes of Create are taken back by the page.
func TestCreateBack(t *testing.T) {
	s := begun(t)
	n := s.begin(t)
	from := s.l.End()
	s.create(t, n)
	l := records(t, s.l, from)
	if len(l) != 2 || l[0].r.Undo != api.UndoPage || l[1].r.Undo != api.UndoPage || l[0].r.Page != api.MapPage || l[1].r.Page != 3 {
		t.Errorf("logged: %v", l)
	}
	s.abort(t, n)
	s.wantPage(t, page.Blank(3))
	s.wantTaken(t, 1, 2)
	if s.l.Kept() != 0 {
		t.Error("kept:", s.l.Kept())
	}
}

// 14.1: the page of Create when the disk has one left, and none.
func TestCreateFull(t *testing.T) {
	s := laid(t, 8, frames, 7)
	n := s.begin(t)
	if root := s.create(t, n); root != 8 {
		t.Error("Create:", root)
	}
	s.wantFails(t, "Create", api.ErrSpace, func() api.Errno {
		root, e := smo.Create(s.Manager, n)
		if root != 0 {
			t.Error("Create:", root)
		}
		return e
	})
}

// The chapter's example: a leaf that is full, and one more: a root with two children.
func TestExample(t *testing.T) {
	s := begun(t)
	n := s.begin(t)
	root := s.create(t, n)
	s.insert(t, n, root, wides(0, 6)...)
	s.wantPage(t, leafOf(3, 0, lives(wides(0, 6)...)...))
	s.wantTaken(t, 1, 2, 3)
	s.insert(t, n, root, wide(6))
	s.wantPage(t,
		innerOf(3, 1, child(4, at("")), child(5, wide(2))),
		leafOf(4, 5, lives(wide(0), wide(1))...),
		leafOf(5, 0, lives(wides(2, 7)...)...),
	)
	s.wantWhole(t, root, lives(wides(0, 7)...)...)
}
