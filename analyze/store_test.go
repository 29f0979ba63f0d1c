package analyze_test

import (
	"fmt"
	"hash/crc32"
	"slices"
	"testing"

	"girder/analyze"
	"girder/api"
	"girder/disk"
	"girder/rec"
	"girder/wal"
)

func wantErr(t *testing.T, what string, e, want api.Errno) {
	t.Helper()
	if e != want {
		t.Errorf("%s: %d, not %d", what, e, want)
	}
}

// placed is a record and its place.
type placed struct {
	at api.LSN
	r  api.Rec
}

// store is a disk and its log.
type store struct {
	d *disk.Disk
	l *wal.Log
}

// bare is a new disk, and its empty log.
func bare(t *testing.T) store {
	t.Helper()
	d, e := disk.New(8)
	wantErr(t, "disk.New", e, api.OK)
	return again(t, d)
}

// again is a disk with what its log has.
func again(t *testing.T, d *disk.Disk) store {
	t.Helper()
	l, _, e := wal.Open(d)
	wantErr(t, "wal.Open", e, api.OK)
	return store{d, l}
}

// with is a new log with records: their places.
func with(t *testing.T, l ...api.Rec) (store, []api.LSN) {
	t.Helper()
	s := bare(t)
	var at []api.LSN
	for _, r := range l {
		at = append(at, s.put(t, r))
	}
	return s, at
}

// put puts a record behind all others.
func (s store) put(t *testing.T, r api.Rec) api.LSN {
	t.Helper()
	b, e := rec.Encode(r)
	if e != api.OK {
		t.Fatalf("Encode: %d, of %+v", e, r)
	}
	return s.bytes(t, b)
}

// bytes puts bytes as a record behind all others.
func (s store) bytes(t *testing.T, b string) api.LSN {
	t.Helper()
	at, e := s.l.Append(b)
	wantErr(t, "Append", e, api.OK)
	return at
}

// master flushes all, and lets the master be a record.
func (s store) master(t *testing.T, at api.LSN) {
	t.Helper()
	wantErr(t, "Flush", s.l.Flush(s.l.End()), api.OK)
	wantErr(t, "SetMaster", s.l.SetMaster(at), api.OK)
}

// update is a change of a page by somebody.
func update(tx int, p api.Page) api.Rec {
	return api.Rec{Kind: api.RecUpdate, Tx: tx, Page: p, Op: api.Op{Kind: api.OpInsert, S: "row"}, Undo: api.UndoPage}
}

// updates is a change of a page with each way to undo it.
func updates(tx int, p api.Page) []api.Rec {
	none, byKey := update(tx, p), update(tx, p)
	none.Undo, byKey.Undo = api.UndoNone, api.UndoKey
	byKey.Index, byKey.Entry, byKey.Live = 3, api.Entry{Key: "key", RID: api.RID{Page: 9, Slot: 2}}, true
	return []api.Rec{none, update(tx, p), byKey}
}

func clr(tx int, p api.Page, next api.LSN) api.Rec {
	return api.Rec{Kind: api.RecCLR, Tx: tx, Page: p, Op: api.Op{Kind: api.OpRemove, Old: "row"}, Next: next}
}

func top(tx int, next api.LSN) api.Rec { return api.Rec{Kind: api.RecTop, Tx: tx, Next: next} }

// plain is a record that has nothing but who wrote it.
func plain(kind, tx int) api.Rec { return api.Rec{Kind: kind, Tx: tx} }

func check(tx int, txs []api.TxState, dirty ...api.Dirty) api.Rec {
	return api.Rec{Kind: api.RecCheck, Tx: tx, Txs: txs, Dirty: dirty}
}

func same(a, b api.Found) bool {
	return slices.Equal(a.Txs, b.Txs) && slices.Equal(a.Dirty, b.Dirty) && a.Redo == b.Redo && a.Most == b.Most && a.Records == b.Records
}

// look is all that is to be seen of a disk and its log.
func (s store) look() string {
	sum := crc32.NewIEEE()
	for n := range api.Page(s.d.Room()) {
		place, _ := s.d.Read(n + 1)
		twin, _ := s.d.Read(n + 1 + api.MaxPages)
		sum.Write([]byte(place + twin))
	}
	for at := api.LSN(1); at != s.l.End(); {
		b, behind, _ := s.l.Get(at)
		sum.Write([]byte(b))
		at = behind
	}
	log, e := s.d.ReadLog()
	mark, _ := s.d.Mark()
	a, b := s.d.Loose()
	return fmt.Sprint(log, e, mark, a, b, s.d.Calls(), s.d.Dead(), s.d.Room(), sum.Sum32(),
		s.l.End(), s.l.Flushed(), s.l.Master(), s.l.Room(), s.l.Kept(), s.l.Len())
}

// run is what Run tells, which changes nothing, and tells the same again.
func (s store) run(t *testing.T) (api.Found, api.Errno) {
	t.Helper()
	was := s.look()
	f, e := analyze.Run(s.l)
	again, err := analyze.Run(s.l)
	if !same(f, again) || e != err {
		t.Fatalf("Run: %+v, %d, and again %+v, %d", f, e, again, err)
	}
	if s.look() != was {
		t.Fatal("Run changed something")
	}
	return f, e
}

// wantFound asks what Run finds.
func (s store) wantFound(t *testing.T, what string, want api.Found) {
	t.Helper()
	if f, e := s.run(t); !same(f, want) || e != api.OK {
		t.Errorf("%s: %+v, %d, not %+v", what, f, e, want)
	}
}

// wantRec asks that Run tells ErrRec, and nothing else.
func (s store) wantRec(t *testing.T, what string) {
	t.Helper()
	if f, e := s.run(t); !same(f, api.Found{}) || e != api.ErrRec {
		t.Errorf("%s: %+v, %d, not %d", what, f, e, api.ErrRec)
	}
}

// records is all records of a log from a place on.
func (s store) records(t *testing.T, from api.LSN) []placed {
	t.Helper()
	var all []placed
	for at := from; at != s.l.End(); {
		b, behind, here := s.l.Get(at)
		if !here {
			t.Fatalf("no record at %d", at)
		}
		r, e := rec.Decode(b)
		wantErr(t, "rec.Decode", e, api.OK)
		all = append(all, placed{at, r})
		at = behind
	}
	return all
}
