package smo

import (
	"girder/api"
	"girder/heap"
	"girder/node"
	"girder/page"
	"girder/rec"
	"girder/txn"
)

// nested does something as a nested top action: when it has ended it stays, whatever becomes of the transaction.
func nested(m *txn.Manager, tx int, do func() api.Errno) api.Errno {
	// A transaction that is none is told by what is done, which may have another error to tell ahead of that.
	to, _ := m.Save(tx)
	if e := do(); e != api.OK {
		return e
	}
	_, e := m.Top(tx, to)
	return e
}

// change does changes of a page, one behind the other, that are taken back by their inverses.
func change(m *txn.Manager, tx int, n api.Page, l ...api.Op) api.Errno {
	for _, op := range l {
		if _, e := m.Log(tx, api.Change{Page: n, Op: op, Undo: api.UndoPage}); e != api.OK {
			return e
		}
	}
	return api.OK
}

// changeForGood does changes of a page that are not taken back.
func changeForGood(m *txn.Manager, tx int, n api.Page, l ...api.Op) api.Errno {
	for _, op := range l {
		if _, e := m.Log(tx, api.Change{Page: n, Op: op, Undo: api.UndoNone}); e != api.OK {
			return e
		}
	}
	return api.OK
}

// byKey is a change of a leaf that is taken back wherever the entry stands then.
func byKey(root, leaf api.Page, op api.Op, en api.Entry, live bool) api.Change {
	return api.Change{Page: leaf, Op: op, Undo: api.UndoKey, Index: int(root), Entry: en, Live: live}
}

// mayPut tells whether the log takes an entry. It is asked ahead of all that is nested, for that stays.
func mayPut(m *txn.Manager, tx int, root api.Page, en api.Entry) api.Errno {
	if s, _ := m.State(tx); s.State != api.TxActive {
		// What is done first tells that.
		return api.OK
	}
	return rec.Check(api.Rec{Kind: api.RecUpdate, Tx: tx, Page: root, Op: node.FormatLeaf(0), Undo: api.UndoKey, Index: int(root), Entry: en, Live: true})
}

// freshLike takes a free page, and makes it one like x, with these slots.
func freshLike(m *txn.Manager, tx int, x api.Sheet, slots []string) (api.Page, api.Errno) {
	n, e := heap.Allocate(m, tx)
	if e != api.OK {
		return 0, e
	}
	if e := change(m, tx, n, like(x)); e != api.OK {
		return 0, e
	}
	// Without an undo: what takes the format back takes the slots along.
	if e := changeForGood(m, tx, n, inserts(slots)...); e != api.OK {
		return 0, e
	}
	return n, api.OK
}

// like is the change that makes a page one of the kind and with the head of x.
func like(x api.Sheet) api.Op { return api.Op{Kind: api.OpFormat, At: x.Kind, S: x.Head} }

// inserts is the changes that put slots into a page that has none.
func inserts(slots []string) []api.Op {
	l := make([]api.Op, 0, len(slots))
	for i, s := range slots {
		l = append(l, api.Op{Kind: api.OpInsert, At: i, S: s})
	}
	return l
}

// removes is the changes that take the slots from a place on out of a page, the last one first.
func removes(x api.Sheet, from int) []api.Op {
	var l []api.Op
	for i := len(x.Slots) - 1; i >= from; i-- {
		l = append(l, api.Op{Kind: api.OpRemove, At: i, Old: x.Slots[i]})
	}
	return l
}

// become is the change of a page without slots to the kind and the head that a format says. A format itself could not be taken back.
func become(x api.Sheet, format api.Op) api.Op {
	return api.Op{Kind: api.OpTurn, S: page.Kind(format.At, format.S), Old: page.Kind(x.Kind, x.Head)}
}
