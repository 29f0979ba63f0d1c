package txn

import (
	"girder/api"
	"girder/rec"
)

// Save is where a transaction stands.
func (m *Manager) Save(n int) (api.LSN, api.Errno) {
	t, e := m.find(n)
	if e != api.OK {
		return 0, e
	}
	return t.Next, api.OK
}

// Top ends a nested top action that began at a place: undoing goes on there.
func (m *Manager) Top(n int, at api.LSN) (api.LSN, api.Errno) {
	t, e := m.find(n)
	if e != api.OK {
		return 0, e
	}
	if at > t.Next {
		return 0, api.ErrArg
	}
	s, e := rec.Encode(api.Rec{Kind: api.RecTop, Tx: n, Prev: t.Last, Next: at})
	if e != api.OK {
		return 0, e
	}
	top, e := m.spend(t, s, t.wayBack(t.State, t.owes(at)))
	if e != api.OK {
		return 0, e
	}
	t.goOn(at)
	return top, api.OK
}

// Next is the record that is undone next, and its place; none: there is none.
func (m *Manager) Next(n int) (api.Rec, api.LSN, api.Errno) {
	t, e := m.find(n)
	if e != api.OK {
		return api.Rec{}, 0, e
	}
	at := t.Next
	for at != 0 {
		r, e := m.read(n, at)
		if e != api.OK {
			return api.Rec{}, 0, e
		}
		if undoable(r) {
			t.goOn(at)
			return r, at, api.OK
		}
		if at, e = ahead(at, leads(r)); e != api.OK {
			return api.Rec{}, 0, e
		}
	}
	t.goOn(0)
	return api.Rec{}, 0, api.OK
}

// read is the record of a transaction that stands at a place.
func (m *Manager) read(n int, at api.LSN) (api.Rec, api.Errno) {
	s, _, here := m.log().Get(at)
	if !here {
		return api.Rec{}, api.ErrRec
	}
	r, e := rec.Decode(s)
	if e != api.OK {
		return api.Rec{}, e
	}
	if r.Tx != n {
		return api.Rec{}, api.ErrRec
	}
	return r, api.OK
}

// leads is where undoing goes on from a record that is not taken back.
func leads(r api.Rec) api.LSN {
	if r.Kind == api.RecCLR || r.Kind == api.RecTop {
		return r.Next
	}
	return r.Prev
}

// ahead is the place to which undoing goes on from at. It goes on ahead of at, or it might never end.
func ahead(at, to api.LSN) (api.LSN, api.Errno) {
	if to >= at {
		return 0, api.ErrRec
	}
	return to, api.OK
}

// Rollback takes back all that a transaction did behind a place.
func (m *Manager) Rollback(n int, to api.LSN, undo func(n int, r api.Rec) api.Errno) api.Errno {
	if _, e := m.find(n); e != api.OK {
		return e
	}
	if undo == nil {
		return api.ErrArg
	}
	for {
		r, at, e := m.Next(n)
		if e != api.OK || at <= to {
			return e
		}
		if e := ask(undo, n, r); e != api.OK {
			return e
		}
		if e := m.pass(n, at, r.Prev); e != api.OK {
			return e
		}
	}
}

// ask lets undo take a record back. It is not the manager's own: a panic of it is an argument that may not be.
func ask(undo func(n int, r api.Rec) api.Errno, n int, r api.Rec) (e api.Errno) {
	defer func() {
		if recover() != nil {
			e = api.ErrArg
		}
	}()
	return undo(n, r)
}

// pass goes on ahead of a record of which undo did not say where undoing goes on.
func (m *Manager) pass(n int, at, prev api.LSN) api.Errno {
	// Asked for anew: undo may have ended the transaction.
	t, e := m.find(n)
	if e != api.OK || t.Next != at {
		return e
	}
	next, e := ahead(at, prev)
	if e != api.OK {
		return e
	}
	t.goOn(next)
	return api.OK
}
