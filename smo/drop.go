package smo

import (
	"slices"

	"girder/api"
	"girder/heap"
	"girder/node"
	"girder/tree"
	"girder/txn"
)

// dropEmpty lets empty leaves go, one by one, but for the last one that is left: how many pages went.
func dropEmpty(m *txn.Manager, tx int, root api.Page, leaves []leafAt) (int, api.Errno) {
	gone, left := 0, len(leaves)
	ahead := api.Page(0)
	for _, l := range leaves {
		x, e := m.Pool().Get(l.page)
		if e != api.OK {
			return 0, e
		}
		if len(x.Slots) > 0 || left == 1 {
			ahead = l.page
			continue
		}
		n, e := drop(m, tx, root, l, ahead)
		if e != api.OK {
			return 0, e
		}
		gone += n
		left--
	}
	return gone, api.OK
}

// drop lets an empty leaf go, and parents that have no children then: how many pages went. Ahead is the leaf ahead of it; 0: it is the first one.
func drop(m *txn.Manager, tx int, root api.Page, l leafAt, ahead api.Page) (int, api.Errno) {
	way, e := tree.Path(m.Pool(), root, l.from)
	if e != api.OK {
		return 0, e
	}
	if way[len(way)-1] != l.page {
		return 0, api.ErrNode
	}
	gone := 0
	e = nested(m, tx, func() api.Errno {
		if e := passOver(m, tx, ahead, l.page); e != api.OK {
			return e
		}
		for i := len(way) - 1; i > 0; i-- {
			left, e := takeOut(m, tx, way[i-1], way[i])
			if e != api.OK {
				return e
			}
			gone++
			if left > 0 {
				break
			}
		}
		return api.OK
	})
	return gone, e
}

// passOver links the leaf ahead of a leaf to the one behind it.
func passOver(m *txn.Manager, tx int, ahead, n api.Page) api.Errno {
	if ahead == 0 {
		return api.OK
	}
	x, e := m.Pool().Get(n)
	if e != api.OK {
		return e
	}
	y, e := m.Pool().Get(ahead)
	if e != api.OK {
		return e
	}
	return change(m, tx, ahead, node.Link(y, node.Next(x)))
}

// takeOut takes a child out of its parent, and releases its page: how many children are left.
func takeOut(m *txn.Manager, tx int, parent, child api.Page) (int, api.Errno) {
	x, e := m.Pool().Get(parent)
	if e != api.OK {
		return 0, e
	}
	l, e := node.Inner(x)
	if e != api.OK {
		return 0, e
	}
	ops, e := without(x, slices.IndexFunc(l, func(c api.Child) bool { return c.Page == child }))
	if e != api.OK {
		return 0, e
	}
	if e := change(m, tx, parent, ops...); e != api.OK {
		return 0, e
	}
	return len(l) - 1, heap.Release(m, tx, child)
}

// without is the changes that take the child at a place out of an inner page.
func without(x api.Sheet, at int) ([]api.Op, api.Errno) {
	take, e := node.Take(x, at)
	if e != api.OK {
		return nil, e
	}
	if at > 0 || len(x.Slots) == 1 {
		return []api.Op{take}, api.OK
	}
	// Ahead of that: its place is still told by the page as it is.
	first, e := node.SetFrom(x, 1, api.Entry{})
	if e != api.OK {
		return nil, e
	}
	return []api.Op{first, take}, api.OK
}

// shrink lets a root take its child's place, as long as it has one alone: how many pages went.
func shrink(m *txn.Manager, tx int, root api.Page) (int, api.Errno) {
	for gone := 0; ; gone++ {
		x, e := m.Pool().Get(root)
		if e != api.OK {
			return 0, e
		}
		l, e := node.Inner(x)
		if e != api.OK || len(l) != 1 {
			// A leaf ends it, too.
			return gone, api.OK
		}
		if e := replace(m, tx, x, l[0].Page); e != api.OK {
			return 0, e
		}
	}
}

// replace lets a root take the place of its one child.
func replace(m *txn.Manager, tx int, x api.Sheet, child api.Page) api.Errno {
	y, e := m.Pool().Get(child)
	if e != api.OK {
		return e
	}
	return nested(m, tx, func() api.Errno {
		l := append(removes(x, 0), become(x, like(y)))
		if e := change(m, tx, x.Number, append(l, inserts(y.Slots)...)...); e != api.OK {
			return e
		}
		return heap.Release(m, tx, child)
	})
}
