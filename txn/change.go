package txn

import (
	"girder/api"
	"girder/page"
	"girder/rec"
)

// Log does a change of a page, and logs it.
func (m *Manager) Log(n int, c api.Change) (api.LSN, api.Errno) {
	t, e := m.find(n)
	if e != api.OK {
		return 0, e
	}
	if t.State != api.TxActive {
		return 0, api.ErrState
	}
	r := update(t, c)
	s, e := rec.Encode(r)
	if e != api.OK {
		return 0, e
	}
	room := 0
	if undoable(r) {
		room = len(s) + api.FrameBytes + undoRoom
	}
	if e := m.log().Keep(room); e != api.OK {
		return 0, e
	}
	at, e := m.change(r, func() (api.LSN, api.Errno) { return m.log().Append(s) })
	if e != api.OK {
		m.log().Give(room)
		return 0, e
	}
	t.kept += room
	t.owe(at, room)
	t.Last, t.Next = at, at
	return at, api.OK
}

// Compensate does a change that takes another one back: undoing goes on at next.
func (m *Manager) Compensate(n int, p api.Page, op api.Op, next api.LSN) (api.LSN, api.Errno) {
	t, e := m.find(n)
	if e != api.OK {
		return 0, e
	}
	r := api.Rec{Kind: api.RecCLR, Tx: n, Prev: t.Last, Next: next, Page: p, Op: op}
	s, e := rec.Encode(r)
	if e != api.OK {
		return 0, e
	}
	part := t.part(len(s)+api.FrameBytes, next)
	left := t.wayBack(t.State, t.owes(next)-part)
	at, e := m.change(r, func() (api.LSN, api.Errno) { return m.spend(t, s, left) })
	if e != api.OK {
		return 0, e
	}
	t.goOn(next)
	t.pay(part)
	return at, api.OK
}

// update is the record of a change.
func update(t *transaction, c api.Change) api.Rec {
	return api.Rec{
		Kind: api.RecUpdate, Tx: t.Tx, Prev: t.Last,
		Page: c.Page, Op: c.Op,
		Undo: c.Undo, Index: c.Index, Entry: c.Entry, Live: c.Live,
	}
}

// undoable tells whether a record is one that is taken back.
func undoable(r api.Rec) bool { return r.Kind == api.RecUpdate && r.Undo != api.UndoNone }

// change does what a record says to its page, when the record has been put.
func (m *Manager) change(r api.Rec, put func() (api.LSN, api.Errno)) (api.LSN, api.Errno) {
	x, e := m.pool.Get(r.Page)
	if e != api.OK {
		return 0, e
	}
	// Ahead of the record: of a change that can't be done the log must say nothing.
	x, e = page.Apply(x, r.Op, m.log().End())
	if e != api.OK {
		return 0, e
	}
	at, e := put()
	if e != api.OK {
		return 0, e
	}
	if e := m.pool.Put(x); e != api.OK {
		return 0, e
	}
	return at, api.OK
}
