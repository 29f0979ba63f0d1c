package heap

import (
	"girder/api"
	"girder/txn"
)

// Put puts a row at a place where there is none.
func Put(m *txn.Manager, tx int, r api.RID, row string) api.Errno {
	if len(row) > api.MaxRow {
		return api.ErrRow
	}
	p, e := fetch(m, r.Page)
	if e != api.OK {
		return e
	}
	if r.Slot < 0 || r.Slot > len(p.slots) || r.Slot >= maxSlots {
		return api.ErrNone
	}
	if r.Slot == len(p.slots) {
		// Without an undo: another one may have put a slot behind it when this is taken back.
		lay := api.Op{Kind: api.OpInsert, At: r.Slot, S: slot{}.bytes()}
		return doAll(m, tx, api.Change{Page: r.Page, Op: lay, Undo: api.UndoNone}, set(r, slot{}, slot{live: true, row: row}))
	}
	old := p.slots[r.Slot]
	if old.live {
		return api.ErrLive
	}
	return doAll(m, tx, set(r, old, slot{live: true, row: row}))
}

// Get is a row.
func Get(m *txn.Manager, r api.RID) (string, api.Errno) {
	s, e := liveSlot(m, r)
	if e != api.OK {
		return "", e
	}
	return s.row, api.OK
}

// Delete takes a row away; its bytes stay until the place is used again.
func Delete(m *txn.Manager, tx int, r api.RID) api.Errno {
	old, e := liveSlot(m, r)
	if e != api.OK {
		return e
	}
	return doAll(m, tx, set(r, old, slot{live: false, row: old.row}))
}

// Update lays another row in a row's place.
func Update(m *txn.Manager, tx int, r api.RID, row string) api.Errno {
	if len(row) > api.MaxRow {
		return api.ErrRow
	}
	old, e := liveSlot(m, r)
	if e != api.OK {
		return e
	}
	return doAll(m, tx, set(r, old, slot{live: true, row: row}))
}

// liveSlot is the slot of a live row.
func liveSlot(m *txn.Manager, r api.RID) (slot, api.Errno) {
	p, e := fetch(m, r.Page)
	if e != api.OK {
		return slot{}, e
	}
	if r.Slot < 0 || r.Slot >= len(p.slots) || !p.slots[r.Slot].live {
		return slot{}, api.ErrNone
	}
	return p.slots[r.Slot], api.OK
}

// set is the change of a slot, that is taken back by its inverse.
func set(r api.RID, old, s slot) api.Change {
	return undoable(r.Page, api.Op{Kind: api.OpSet, At: r.Slot, S: s.bytes(), Old: old.bytes()})
}
