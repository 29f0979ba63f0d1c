package ckpt_test

import (
	"maps"
	"slices"
	"testing"

	"girder/api"
	"girder/ckpt"
	"girder/disk"
	"girder/page"
	"girder/undo"
	"girder/wal"
)

// found is what a log says, from a place on.
type found struct {
	txs           map[int]api.TxState
	dirty         map[api.Page]api.LSN
	most, records int
}

// analyzed goes through a log from a place on, as the document's chapter of analysis says.
func analyzed(t *testing.T, l *wal.Log, from api.LSN) found {
	t.Helper()
	f := found{txs: map[int]api.TxState{}, dirty: map[api.Page]api.LSN{}}
	for _, x := range records(t, l, from) {
		f.records++
		f.most = max(f.most, x.r.Tx)
		switch x.r.Kind {
		case api.RecBegin:
		case api.RecCheck:
			f.check(x.r)
		default:
			f.note(x)
		}
	}
	return f
}

// check notes what a RecCheck says.
func (f *found) check(r api.Rec) {
	for _, x := range r.Txs {
		f.most = max(f.most, x.Tx)
		if _, known := f.txs[x.Tx]; !known {
			f.txs[x.Tx] = x
		}
	}
	for _, x := range r.Dirty {
		if since, known := f.dirty[x.Page]; !known || x.LSN < since {
			f.dirty[x.Page] = x.LSN
		}
	}
}

// note notes what a record says of its transaction and of its page.
func (f *found) note(x placed) {
	s, known := f.txs[x.r.Tx]
	if !known {
		s = api.TxState{Tx: x.r.Tx, State: api.TxActive}
	}
	s.Last = x.at
	switch x.r.Kind {
	case api.RecUpdate:
		s.Next = x.at
	case api.RecCLR, api.RecTop:
		s.Next = x.r.Next
	case api.RecCommit:
		s.State = api.TxCommitted
	case api.RecAbort:
		s.State = api.TxAborting
	}
	f.txs[x.r.Tx] = s
	if x.r.Kind == api.RecEnd {
		delete(f.txs, x.r.Tx)
	}
	if _, known := f.dirty[x.r.Page]; x.r.Page != 0 && !known {
		f.dirty[x.r.Page] = x.at
	}
}

// risen stands up from a disk, by what its log says from a place on: history is repeated for the pages that are dirty, from where they are, those that committed are ended, of all others the last record is taken back first.
func risen(t *testing.T, d *disk.Disk, frames int, from api.LSN) (store, found) {
	t.Helper()
	s := over(t, d, frames)
	f := analyzed(t, s.l, from)
	redo := s.l.End()
	for _, since := range f.dirty {
		redo = min(redo, since)
	}
	for _, x := range records(t, s.l, redo) {
		if since, dirty := f.dirty[x.r.Page]; dirty && x.at >= since {
			s.repeat(t, x)
		}
	}
	s.load(t, slices.Collect(maps.Values(f.txs)), f.most+1)
	for _, x := range s.All() {
		if x.State == api.TxCommitted {
			wantErr(t, "Finish", s.Finish(x.Tx), api.OK)
		}
	}
	for s.undoLast(t) {
	}
	for _, x := range s.All() {
		wantErr(t, "Abort", undo.Abort(s.Manager, x.Tx), api.OK)
	}
	return s, f
}

// repeat does the change of a record, if its page lacks it.
func (s store) repeat(t *testing.T, x placed) {
	t.Helper()
	p, e := s.p.Get(x.r.Page)
	if e != api.OK || p.LSN >= x.at {
		wantErr(t, "Get", e, api.OK)
		return
	}
	p, e = page.Apply(p, x.r.Op, x.at)
	wantErr(t, "Apply", e, api.OK)
	wantErr(t, "Put", s.p.Put(p), api.OK)
}

// undoLast takes the last record back of all that are to be taken back, and tells whether there was one.
func (s store) undoLast(t *testing.T) bool {
	t.Helper()
	var last placed
	for _, x := range s.All() {
		r, at, e := s.Next(x.Tx)
		wantErr(t, "Next", e, api.OK)
		if at > last.at {
			last = placed{at, r}
		}
	}
	if last.at == 0 {
		return false
	}
	e := undo.One(s.Manager, last.r.Tx, last.r)
	wantErr(t, "One", e, api.OK)
	return e == api.OK
}

// withRecords is those of which the log has a record.
func (f found) withRecords() map[int]api.TxState {
	l := maps.Clone(f.txs)
	maps.DeleteFunc(l, func(_ int, x api.TxState) bool { return x.Last == 0 })
	return l
}

// wantRises asks that what stands up by the master is what stands up by the whole log: what committed, and nothing else; how many records fewer were gone through.
func (w *walk) wantRises(frames int) int {
	w.t.Helper()
	l, _, e := wal.Open(w.d.Clone())
	wantErr(w.t, "wal.Open", e, api.OK)
	master := l.Master()
	whole, all := risen(w.t, w.d.Clone(), 8, 1)
	w.wantSurvived(whole)
	s, some := risen(w.t, w.d.Clone(), frames, max(master, 1))
	w.wantSurvived(s)
	s.wantContent(w.t, "by the master", whole.content(w.t))
	if some.most < all.most {
		w.t.Errorf("the greatest is %d, not %d", some.most, all.most)
	}
	// Where undoing goes on may be told of a record that is passed over: what comes of it is the same.
	a, b := some.withRecords(), all.withRecords()
	if len(a) != len(b) {
		w.t.Errorf("under way: %v, not %v", a, b)
	}
	for n, x := range b {
		if a[n].State != x.State || a[n].Last != x.Last {
			w.t.Errorf("under way: %v, not %v", a[n], x)
		}
	}
	// A checkpoint behind it, and once more from that.
	at := s.take(w.t)
	s.wantLast(w.t, s.Coming()-1, 0, len(s.p.Dirty()))
	s.d.Crash(api.Fall{Keep: w.r.Uint64()})
	s.d.Up()
	again, last := risen(w.t, s.d, frames, at)
	w.wantSurvived(again)
	again.wantContent(w.t, "by the last one", whole.content(w.t))
	if last.records != 2 || len(last.txs) != 0 || again.Coming() != s.Coming() {
		w.t.Errorf("by the last one: %+v; the next number is %d, not %d", last, again.Coming(), s.Coming())
	}
	if w.t.Failed() {
		w.t.FailNow()
	}
	return all.records - some.records
}

// T1: the power fails between steps of a walk with checkpoints.
func TestRestart(t *testing.T) {
	fewer := 0
	for seed := range int64(120) {
		w := newWalk(t, 2000+seed, []int{4, 5, 8, 40}[seed%4])
		w.p.Picks([]int{3, 1, 4, 1, 5, 9, 2, 6, 5, 3, 5, 8, 9, 7, 9, 3, 2, 3, 8, 4})
		every := 3 + w.r.Intn(60)
		for i := range 20 + w.r.Intn(200) {
			w.step()
			if i%every == 0 {
				w.take(t)
			}
			if i%17 == 0 {
				wantErr(t, "Write", w.p.Write(api.Page(w.r.Intn(20)+1)), api.OK)
			}
		}
		w.d.Crash(api.Fall{Keep: w.r.Uint64(), Log: w.r.Intn(300)})
		w.d.Up()
		fewer += w.wantRises(4 + int(seed)%9)
	}
	if fewer < 1000 {
		t.Error("records that were not gone through:", fewer)
	}
}

// T1: the power fails at any call of the disk, in the midst of steps and of checkpoints.
func TestRestartFromTheMidst(t *testing.T) {
	inSteps, inTakes := 0, 0
	for seed := range int64(300) {
		w := newWalk(t, 5000+seed, 4+int(seed)%5)
		w.d.Plan([]api.Fall{{
			At: w.d.Calls() + w.r.Intn(150), Keep: w.r.Uint64(), Torn: w.r.Intn(3), Bytes: w.r.Intn(600), Log: w.r.Intn(900),
		}})
		every := 1 + w.r.Intn(9)
		for i := 0; !w.fell; i++ {
			if w.step(); w.fell {
				inSteps++
				break
			}
			if i%every > 0 {
				continue
			}
			if _, e := ckpt.Take(w.Manager); !w.told("Take", e) {
				inTakes++
			}
		}
		w.d.Up()
		w.d.Plan(nil)
		w.wantRises(4 + int(seed)%7)
	}
	if inSteps < 50 || inTakes < 50 {
		t.Error("falls in steps and in checkpoints:", inSteps, inTakes)
	}
}
