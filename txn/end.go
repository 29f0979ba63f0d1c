package txn

import (
	"girder/api"
	"girder/rec"
)

// Commit commits a transaction: it is told when the log is flushed.
func (m *Manager) Commit(n int) api.Errno {
	t, e := m.find(n)
	if e != api.OK {
		return e
	}
	if t.State != api.TxActive {
		return api.ErrState
	}
	at, e := m.mark(t, api.RecCommit, endRoom)
	if e != api.OK {
		return e
	}
	if e := m.log().Flush(at); e != api.OK {
		return e
	}
	t.State = api.TxCommitted
	m.done = append(m.done, n)
	return m.end(t)
}

// Abort takes a transaction back wholly, and ends it.
func (m *Manager) Abort(n int, undo func(n int, r api.Rec) api.Errno) api.Errno {
	t, e := m.find(n)
	if e != api.OK {
		return e
	}
	if t.State == api.TxCommitted {
		return api.ErrState
	}
	if undo == nil {
		return api.ErrArg
	}
	if t.State == api.TxActive {
		if _, e := m.mark(t, api.RecAbort, t.wayBack(api.TxAborting, t.owes(t.Next))); e != api.OK {
			return e
		}
		t.State = api.TxAborting
	}
	if e := m.Rollback(n, 0, undo); e != api.OK {
		return e
	}
	// Asked for anew: undo may have ended it, and laid another one.
	if t, e = m.find(n); e != api.OK {
		return e
	}
	return m.end(t)
}

// Finish ends a transaction that committed ahead of a crash.
func (m *Manager) Finish(n int) api.Errno {
	t, e := m.find(n)
	if e != api.OK {
		return e
	}
	if t.State != api.TxCommitted {
		return api.ErrState
	}
	return m.end(t)
}

// mark puts a record that says nothing but its kind; so much must be left behind that.
func (m *Manager) mark(t *transaction, kind, left int) (api.LSN, api.Errno) {
	s, e := rec.Encode(api.Rec{Kind: kind, Tx: t.Tx, Prev: t.Last})
	if e != api.OK {
		return 0, e
	}
	return m.spend(t, s, left)
}

// end ends a transaction: what is left of its room is given back.
func (m *Manager) end(t *transaction) api.Errno {
	if _, e := m.mark(t, api.RecEnd, 0); e != api.OK {
		return e
	}
	m.log().Give(t.kept)
	delete(m.txs, t.Tx)
	return api.OK
}
