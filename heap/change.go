package heap

import (
	"girder/api"
	"girder/page"
	"girder/rec"
	"girder/txn"
)

// undoRoom is what a transaction keeps in the log for a change that can be undone, beside as many bytes as its frame has (chapter 9).
const undoRoom = 160

// undoable is a change that is taken back by its inverse.
func undoable(n api.Page, op api.Op) api.Change {
	return api.Change{Page: n, Op: op, Undo: api.UndoPage}
}

// doAll does changes one behind the other, all of them or none.
func doAll(m *txn.Manager, tx int, l ...api.Change) api.Errno {
	// Asked ahead of the first one: what has no undo could not be taken back any more.
	if s, _ := m.State(tx); s.State == api.TxActive && !hasRoom(m, tx, l) {
		return api.ErrLog
	}
	to, _ := m.Save(tx)
	for i, c := range l {
		if _, e := m.Log(tx, c); e != api.OK {
			if i > 0 {
				takeBack(m, tx, to)
			}
			return e
		}
	}
	return api.OK
}

// hasRoom tells whether the log has room for changes, and for what is kept for them.
func hasRoom(m *txn.Manager, tx int, l []api.Change) bool {
	need := 0
	for _, c := range l {
		long, _ := rec.Long(api.Rec{Kind: api.RecUpdate, Tx: tx, Page: c.Page, Op: c.Op, Undo: c.Undo})
		need += long
		if c.Undo != api.UndoNone {
			need += long + undoRoom
		}
	}
	log := m.Pool().Log()
	return need <= log.Room()-log.Kept()
}

// takeBack takes back what a transaction did behind a place. Where the disk is dead it may end in the midst: the transaction goes on from there when it is taken back itself.
func takeBack(m *txn.Manager, tx int, to api.LSN) {
	m.Rollback(tx, to, func(n int, r api.Rec) api.Errno {
		_, e := m.Compensate(n, r.Page, page.Inverse(r.Op), r.Prev)
		return e
	})
}
