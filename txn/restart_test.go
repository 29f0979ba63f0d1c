package txn_test

import (
	"testing"

	"girder/api"
	"girder/disk"
	"girder/page"
)

// risen is a manager over a disk behind a crash: history is repeated, and those that did not end are under way, as the document's chapter of analysis says.
func risen(t *testing.T, d *disk.Disk) store {
	t.Helper()
	s := over(t, d, frames)
	found := map[int]*api.TxState{}
	most := 0
	for _, x := range records(t, s.l) {
		if x.r.Kind == api.RecBegin || x.r.Kind == api.RecCheck {
			continue
		}
		most = max(most, x.r.Tx)
		repeat(t, s, x)
		note(found, x)
	}
	var l []api.TxState
	for _, f := range found {
		l = append(l, *f)
	}
	wantErr(t, "Load", s.Load(l, most+1), api.OK)
	return s
}

// repeat does the change of a record, if its page lacks it.
func repeat(t *testing.T, s store, x placed) {
	t.Helper()
	if x.r.Kind != api.RecUpdate && x.r.Kind != api.RecCLR {
		return
	}
	p, e := s.p.Get(x.r.Page)
	wantErr(t, "Get", e, api.OK)
	if p.LSN >= x.at {
		return
	}
	p, e = page.Apply(p, x.r.Op, x.at)
	wantErr(t, "Apply", e, api.OK)
	wantErr(t, "Put", s.p.Put(p), api.OK)
}

// note notes what a record says of its transaction.
func note(found map[int]*api.TxState, x placed) {
	f := found[x.r.Tx]
	if f == nil {
		f = &api.TxState{Tx: x.r.Tx, State: api.TxActive}
		found[x.r.Tx] = f
	}
	f.Last = x.at
	switch x.r.Kind {
	case api.RecUpdate:
		f.Next = x.at
	case api.RecCLR, api.RecTop:
		f.Next = x.r.Next
	case api.RecCommit:
		f.State = api.TxCommitted
	case api.RecAbort:
		f.State = api.TxAborting
	case api.RecEnd:
		delete(found, x.r.Tx)
	}
}

// settle ends all that a crash left under way: those that committed stay, all others go back.
func (s store) settle(t *testing.T) {
	t.Helper()
	for _, x := range s.All() {
		if x.State == api.TxCommitted {
			wantErr(t, "Finish", s.Finish(x.Tx), api.OK)
		} else {
			wantErr(t, "Abort", s.Abort(x.Tx, s.inverse), api.OK)
		}
	}
	if len(s.All()) != 0 {
		t.Error("under way:", s.All())
	}
}
