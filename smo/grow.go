package smo

import (
	"slices"

	"girder/api"
	"girder/node"
	"girder/txn"
)

// mostWay is how many pages the way of an entry has at most (chapter 13).
const mostWay = 32

// makeRoom sees to it, from the root on down, that no page on the way of an entry is full.
func makeRoom(m *txn.Manager, tx int, root api.Page, en api.Entry, free func(r api.RID) bool) api.Errno {
	full, e := isFull(m, tx, root, free)
	if e != api.OK {
		return e
	}
	if full {
		if e := grow(m, tx, root); e != api.OK {
			return e
		}
	}
	n := root
	for range mostWay {
		child, e := stepDown(m, tx, n, en, free)
		if e != api.OK || child == 0 {
			return e
		}
		n = child
	}
	return api.ErrNode
}

// isFull tells whether a page is full; a leaf is cleaned first.
func isFull(m *txn.Manager, tx int, n api.Page, free func(r api.RID) bool) (bool, api.Errno) {
	x, e := m.Pool().Get(n)
	if e != api.OK || !node.Full(x) {
		return false, e
	}
	if x.Kind == api.KindLeaf && free != nil {
		if _, e := cleanLeaf(m, tx, n, free); e != api.OK {
			return false, e
		}
		if x, e = m.Pool().Get(n); e != api.OK {
			return false, e
		}
	}
	return node.Full(x), api.OK
}

// stepDown is the child of an inner page in which an entry would stand, with room in it; 0: the page is a leaf.
func stepDown(m *txn.Manager, tx int, n api.Page, en api.Entry, free func(r api.RID) bool) (api.Page, api.Errno) {
	child, at, e := childOf(m, n, en)
	if e != api.OK || child == 0 {
		return 0, e
	}
	full, e := isFull(m, tx, child, free)
	if e != api.OK || !full {
		return child, e
	}
	if e := cut(m, tx, n, at, child); e != api.OK {
		return 0, e
	}
	child, _, e = childOf(m, n, en)
	return child, e
}

// childOf is the child of an inner page in which an entry would stand, and its place; 0: the page is a leaf.
func childOf(m *txn.Manager, n api.Page, en api.Entry) (api.Page, int, api.Errno) {
	x, e := m.Pool().Get(n)
	if e != api.OK || x.Kind == api.KindLeaf {
		return 0, 0, e
	}
	l, e := node.Inner(x)
	if e != api.OK {
		return 0, 0, e
	}
	if len(l) == 0 {
		return 0, 0, api.ErrNode
	}
	at := node.Down(l, en)
	return l[at].Page, at, api.OK
}

// grow lets a root grow: what it has goes into a fresh page, which is its one child then.
func grow(m *txn.Manager, tx int, root api.Page) api.Errno {
	x, e := m.Pool().Get(root)
	if e != api.OK {
		return e
	}
	level := node.Level(x) + 1
	// Levels count from 0 on: one more, and nobody would come down to the leaves any more.
	if level >= mostWay {
		return api.ErrNode
	}
	return nested(m, tx, func() api.Errno {
		n, e := freshLike(m, tx, x, x.Slots)
		if e != api.OK {
			return e
		}
		l := append(removes(x, 0), become(x, node.FormatInner(level)), node.PutChild(0, api.Child{Page: n}))
		return change(m, tx, root, l...)
	})
}

// cut cuts the child at a place of an inner page in two.
func cut(m *txn.Manager, tx int, parent api.Page, at int, child api.Page) api.Errno {
	x, e := m.Pool().Get(child)
	if e != api.OK {
		return e
	}
	half := node.Half(x)
	from, slots, e := upper(x, half)
	if e != api.OK {
		return e
	}
	return nested(m, tx, func() api.Errno {
		n, e := freshLike(m, tx, x, slots)
		if e != api.OK {
			return e
		}
		l := removes(x, half)
		if x.Kind == api.KindLeaf {
			l = append(l, node.Link(x, n))
		}
		if e := change(m, tx, child, l...); e != api.OK {
			return e
		}
		return change(m, tx, parent, node.PutChild(at+1, api.Child{Page: n, From: from}))
	})
}

// upper is what goes into a fresh page when a page is cut in two at a place: where that begins, and its slots.
func upper(x api.Sheet, half int) (api.Entry, []string, api.Errno) {
	slots := slices.Clone(x.Slots[half:])
	if x.Kind == api.KindLeaf {
		l, e := node.Leaf(x)
		if e != api.OK {
			return api.Entry{}, nil, e
		}
		return l[half].Entry, slots, api.OK
	}
	l, e := node.Inner(x)
	if e != api.OK {
		return api.Entry{}, nil, e
	}
	slots[0] = node.PutChild(0, api.Child{Page: l[half].Page}).S
	return l[half].From, slots, api.OK
}
