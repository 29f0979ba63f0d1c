package ckpt_test

import (
	"encoding/binary"
	"fmt"
	"hash/crc32"
	"slices"
	"strings"
	"testing"

	"girder/api"
	"girder/ckpt"
	"girder/disk"
	"girder/page"
	"girder/pool"
	"girder/rec"
	"girder/txn"
	"girder/undo"
	"girder/wal"
)

const (
	room   = 64 // pages of the disks of these tests, where nothing else is said
	frames = 32 // of their pools

	beginLong = 25 // bytes of the frame of a RecBegin
	checkLong = 29 // of a RecCheck without transactions and pages
	txLong    = 21 // and of each transaction
	dirtyLong = 12 // and of each page that is dirty
	setLong   = 39 // of the frame of a change of one byte to another

	calls = 4 // of the disk in a checkpoint: AppendLog, SyncLog, SetMark, Sync
)

func wantErr(t *testing.T, what string, e, want api.Errno) {
	t.Helper()
	if e != want {
		t.Errorf("%s: %d, not %d", what, e, want)
	}
}

// store is a manager, and all that it stands on.
type store struct {
	*txn.Manager
	d *disk.Disk
	l *wal.Log
	p *pool.Pool
}

// over is a manager over a disk as it is.
func over(t *testing.T, d *disk.Disk, frames int) store {
	t.Helper()
	l, _, e := wal.Open(d)
	wantErr(t, "wal.Open", e, api.OK)
	p, e := pool.New(d, l, frames)
	wantErr(t, "pool.New", e, api.OK)
	return store{Manager: txn.New(p), d: d, l: l, p: p}
}

// bare is a manager over a new disk, with nothing on it.
func bare(t *testing.T, room, frames int) store {
	t.Helper()
	d, e := disk.New(room)
	wantErr(t, "disk.New", e, api.OK)
	return over(t, d, frames)
}

func (s store) begin(t *testing.T) int {
	t.Helper()
	n, e := s.Begin()
	if e != api.OK {
		t.Fatal("Begin:", e)
	}
	return n
}

func (s store) commit(t *testing.T, n int) {
	t.Helper()
	wantErr(t, "Commit", s.Commit(n), api.OK)
}

// load lays transactions.
func (s store) load(t *testing.T, l []api.TxState, next int) {
	t.Helper()
	wantErr(t, "Load", s.Load(l, next), api.OK)
}

// lay puts a page of these slots into the pool, of which the log says nothing.
func (s store) lay(t *testing.T, n api.Page, slots ...string) {
	t.Helper()
	wantErr(t, "pool.Put", s.p.Put(api.Sheet{Number: n, Kind: 9, Slots: slots}), api.OK)
}

// set logs the change of a page's first slot.
func (s store) set(t *testing.T, n int, p api.Page, old, text string) api.LSN {
	t.Helper()
	op := api.Op{Kind: api.OpSet, S: text, Old: old}
	at, e := s.Log(n, api.Change{Page: p, Op: op, Undo: api.UndoPage})
	if e != api.OK {
		t.Fatal("Log:", e)
	}
	return at
}

// wantSlot asks for a page's first slot.
func (s store) wantSlot(t *testing.T, n api.Page, want string) {
	t.Helper()
	x, e := s.p.Get(n)
	if e != api.OK || !slices.Equal(x.Slots, []string{want}) {
		t.Errorf("page %d: %q, %d, not %q", n, x.Slots, e, want)
	}
}

// partly lets a transaction go back wholly, but ends that with an error when so many records were taken back: it is aborting then.
func (s store) partly(t *testing.T, n, many int) {
	t.Helper()
	e := s.Abort(n, func(n int, r api.Rec) api.Errno {
		if many == 0 {
			return 777
		}
		many--
		return undo.One(s.Manager, n, r)
	})
	wantErr(t, "Abort", e, 777)
}

// fill puts records into the log until just so many bytes are free beside what is kept, or fewer than a frame has more.
func (s store) fill(t *testing.T, free int) {
	t.Helper()
	const least = api.FrameBytes + 1
	for left := s.l.Room() - s.l.Kept() - free; left >= least; left = s.l.Room() - s.l.Kept() - free {
		n := min(left, api.FrameBytes+api.MaxRecord)
		if rest := left - n; rest > 0 && rest < least {
			n -= least
		}
		_, e := s.l.Append(strings.Repeat("\xff", n-api.FrameBytes))
		wantErr(t, "Append", e, api.OK)
	}
}

// leave keeps so much of the log that just so many bytes are free.
func (s store) leave(t *testing.T, free int) {
	t.Helper()
	wantErr(t, "Keep", s.l.Keep(s.l.Room()-s.l.Kept()-free), api.OK)
}

// recBegin is a RecBegin, laid by hand.
func recBegin() string { return "\x07" + strings.Repeat("\x00", 12) }

// recCheck is a RecCheck, laid by hand.
func recCheck(tx int, txs []api.TxState, dirty []api.Dirty) string {
	le := binary.LittleEndian
	b := le.AppendUint32([]byte{8}, uint32(tx))
	b = le.AppendUint64(b, 0)
	b = le.AppendUint16(b, uint16(len(txs)))
	for _, x := range txs {
		b = append(le.AppendUint32(b, uint32(x.Tx)), byte(x.State))
		b = le.AppendUint64(b, uint64(x.Last))
		b = le.AppendUint64(b, uint64(x.Next))
	}
	b = le.AppendUint16(b, uint16(len(dirty)))
	for _, x := range dirty {
		b = le.AppendUint32(b, uint32(x.Page))
		b = le.AppendUint64(b, uint64(x.LSN))
	}
	return string(b)
}

// stays is what no checkpoint changes, as texts.
type stays struct {
	txs, frames, pages string
	kept               int
}

// logs is what a checkpoint is seen by.
type logs struct {
	end, flushed, master api.LSN
	mark                 uint64
	room, many, calls    int
	loose, looseLog      int
	bytes                string
}

// seen is all that is to be seen of a store.
type seen struct {
	stays
	logs
}

func (s store) look() seen {
	var x seen
	x.txs = fmt.Sprint(s.All(), s.Done(), s.Coming())
	x.kept = s.l.Kept()
	fetched, written := s.p.Counts()
	x.frames = fmt.Sprint(s.p.Numbers(), s.p.Dirty(), fetched, written)
	for _, n := range s.p.Numbers() {
		p, e := s.p.Get(n)
		x.frames += fmt.Sprint(p, e)
	}
	x.pages = fmt.Sprint(s.d.Dead(), s.d.Room(), s.sum())
	x.end, x.flushed, x.master = s.l.End(), s.l.Flushed(), s.l.Master()
	x.mark, _ = s.d.Mark()
	x.room, x.many, x.calls = s.l.Room(), s.l.Len(), s.d.Calls()
	x.loose, x.looseLog = s.d.Loose()
	x.bytes, _ = s.d.ReadLog()
	return x
}

// sum is a sum of all pages of the disk.
func (s store) sum() uint32 {
	sum := crc32.NewIEEE()
	for n := range api.Page(s.d.Room()) {
		place, _ := s.d.Read(n + 1)
		twin, _ := s.d.Read(n + 1 + api.MaxPages)
		sum.Write([]byte(place + twin))
	}
	return sum.Sum32()
}

// wantSame asks that nothing has changed.
func (s store) wantSame(t *testing.T, what string, was seen) {
	t.Helper()
	is := s.look()
	s.wantStays(t, what, was)
	if is.logs != was.logs {
		is.bytes, was.bytes = "", ""
		t.Errorf("%s: the log is %+v, was %+v", what, is.logs, was.logs)
	}
}

// wantStays asks that nothing but the log has changed.
func (s store) wantStays(t *testing.T, what string, was seen) {
	t.Helper()
	is := s.look()
	for _, x := range [][2]string{{is.txs, was.txs}, {is.frames, was.frames}, {is.pages, was.pages}} {
		if x[0] != x[1] {
			t.Errorf("%s: is %.300q, was %.300q", what, x[0], x[1])
		}
	}
	if is.kept != was.kept {
		t.Errorf("%s: %d kept, was %d", what, is.kept, was.kept)
	}
}

// wantRoom asks what Room tells, and that it changes nothing.
func (s store) wantRoom(t *testing.T, want bool) {
	t.Helper()
	was := s.look()
	if is := ckpt.Room(s.Manager); is != want {
		t.Errorf("Room: %t", is)
	}
	s.wantSame(t, "Room", was)
}

// wantRefused asks that Take answers an error and changes nothing.
func (s store) wantRefused(t *testing.T, want api.Errno) {
	t.Helper()
	was := s.look()
	if at, e := ckpt.Take(s.Manager); at != 0 || e != want {
		t.Errorf("Take: %d, %d, not %d", at, e, want)
	}
	s.wantSame(t, "Take", was)
}

// take takes a checkpoint, and asks for all that the chapter says of it: the record at which it begins.
func (s store) take(t *testing.T) api.LSN {
	t.Helper()
	was := s.look()
	check := recCheck(s.Coming()-1, s.All(), s.p.Dirty())
	s.wantRoom(t, true)
	at, e := ckpt.Take(s.Manager)
	if at != was.end || e != api.OK {
		t.Fatalf("Take: %d, %d; the end was %d", at, e, was.end)
	}
	s.wantStays(t, "Take", was)
	end := s.wantStands(t, s.l, at, check)
	is, want := s.look().logs, logs{
		end: end, flushed: end, master: at, mark: uint64(at),
		room: was.room - int(end-at), many: was.many + 2, calls: was.calls + calls,
	}
	if int(end)-1 != len(is.bytes) || !strings.HasPrefix(is.bytes, was.bytes) {
		t.Errorf("the disk's log has %d bytes, the end is %d", len(is.bytes), end)
	}
	if is.bytes = ""; is != want {
		t.Errorf("the log is %+v, not %+v", is, want)
	}
	s.wantSure(t, at, check)
	if t.Failed() {
		t.FailNow()
	}
	return at
}

// wantStands asks for the two records of a checkpoint in a log, behind one another: where they end.
func (s store) wantStands(t *testing.T, l *wal.Log, at api.LSN, check string) api.LSN {
	t.Helper()
	begin, second, here := l.Get(at)
	if begin != recBegin() || !here || second != at+beginLong {
		t.Errorf("the record at %d: %x, %t, up to %d", at, begin, here, second)
	}
	r, end, here := l.Get(second)
	if r != check || !here {
		t.Errorf("the record at %d: %x, %t, not %x", second, r, here, check)
	}
	return end
}

// wantSure asks that a checkpoint is there behind a fall of the power, whatever is loose.
func (s store) wantSure(t *testing.T, at api.LSN, check string) {
	t.Helper()
	for _, f := range []api.Fall{{}, {Keep: ^uint64(0), Log: api.MaxLog}} {
		d := s.d.Clone()
		d.Crash(f)
		d.Up()
		l, torn, e := wal.Open(d)
		if torn != 0 || e != api.OK {
			t.Fatalf("wal.Open: %d torn, %d", torn, e)
		}
		if l.Master() != at || l.End() != s.l.End() {
			t.Errorf("behind a fall: the master is %d, the end %d, not %d, %d", l.Master(), l.End(), at, s.l.End())
		}
		s.wantStands(t, l, at, check)
	}
}

// placed is a record and its place.
type placed struct {
	at api.LSN
	r  api.Rec
}

// records is all records of a log from a place on.
func records(t *testing.T, l *wal.Log, from api.LSN) []placed {
	t.Helper()
	var all []placed
	for at := from; at != l.End(); {
		s, next, here := l.Get(at)
		if !here {
			t.Fatalf("no record at %d", at)
		}
		r, e := rec.Decode(s)
		wantErr(t, "rec.Decode", e, api.OK)
		all = append(all, placed{at, r})
		at = next
	}
	return all
}

// content is all pages, but their LSNs, which hang on how many records there are.
func (s store) content(t *testing.T) []api.Sheet {
	t.Helper()
	var all []api.Sheet
	for n := range api.Page(s.d.Room()) {
		x, e := s.p.Get(n + 1)
		if e != api.OK {
			t.Fatalf("page %d: %d", n+1, e)
		}
		x.LSN = 0
		all = append(all, x)
	}
	return all
}

// wantContent asks for pages.
func (s store) wantContent(t *testing.T, what string, want []api.Sheet) {
	t.Helper()
	for i, x := range s.content(t) {
		if !page.Same(x, want[i]) {
			t.Errorf("%s: page %d: %+v, not %+v", what, i+1, x, want[i])
		}
	}
}
