package txn_test

import (
	"testing"

	"girder/api"
	"girder/page"
	"girder/wal"
)

// shadow is what a log says of a transaction, up to a record.
type shadow struct {
	last, next      api.LSN
	committed, gone bool
}

// chains goes over a log by the document's words alone.
type chains struct {
	t     *testing.T
	all   map[api.LSN]api.Rec
	txs   map[int]*shadow
	taken map[api.LSN]api.LSN // by which compensation each change was taken back
}

// checkChains asks that each record of a log has the right one ahead, that compensation takes back what is to be taken back next, by the inverse, and leads to the one ahead of that, that ends of nested top actions lead ahead, and that nothing is taken back twice, or behind an end.
func checkChains(t *testing.T, l *wal.Log) {
	t.Helper()
	w := chains{t: t, all: map[api.LSN]api.Rec{}, txs: map[int]*shadow{}, taken: map[api.LSN]api.LSN{}}
	for _, x := range records(t, l) {
		if x.r.Kind == api.RecBegin || x.r.Kind == api.RecCheck {
			continue
		}
		w.record(x.at, x.r)
		w.all[x.at] = x.r
	}
}

func (w *chains) record(at api.LSN, r api.Rec) {
	w.t.Helper()
	x := w.txs[r.Tx]
	if x == nil {
		x = &shadow{}
		w.txs[r.Tx] = x
	}
	if r.Prev != x.last || x.gone {
		w.t.Errorf("the record at %d: %v; the one ahead is at %d (%v)", at, r, x.last, x)
	}
	x.last = at
	switch r.Kind {
	case api.RecUpdate:
		x.next = at
	case api.RecCLR:
		w.compensation(at, r, x)
		x.next = r.Next
	case api.RecTop:
		if r.Next > x.next {
			w.t.Errorf("the Top at %d leads to %d, behind %d", at, r.Next, x.next)
		}
		x.next = r.Next
	case api.RecCommit:
		x.committed = true
	case api.RecEnd:
		if !x.committed && w.standing(x.next) != 0 {
			w.t.Errorf("the end at %d: the change at %d was not taken back", at, w.standing(x.next))
		}
		x.gone = true
	}
}

// standing is the change that is to be taken back next, from a place on.
func (w *chains) standing(at api.LSN) api.LSN {
	for at != 0 {
		r := w.all[at]
		switch {
		case r.Kind == api.RecUpdate && r.Undo != api.UndoNone:
			return at
		case r.Kind == api.RecCLR || r.Kind == api.RecTop:
			at = r.Next
		default:
			at = r.Prev
		}
	}
	return 0
}

func (w *chains) compensation(at api.LSN, r api.Rec, x *shadow) {
	w.t.Helper()
	of := w.standing(x.next)
	back := w.all[of]
	if of == 0 || r.Next != back.Prev || r.Page != back.Page || r.Op != page.Inverse(back.Op) {
		w.t.Errorf("the compensation at %d: %v, of the change at %d: %v", at, r, of, back)
	}
	if before, twice := w.taken[of]; twice {
		w.t.Errorf("the change at %d is taken back twice: at %d and %d", of, before, at)
	}
	w.taken[of] = at
}
