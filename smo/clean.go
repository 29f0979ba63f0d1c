package smo

import (
	"girder/api"
	"girder/node"
	"girder/pool"
	"girder/tree"
	"girder/txn"
)

// Clean takes all ghosts out of a tree that nobody has a lock of, and the leaves that are empty then: how many ghosts, how many pages.
func Clean(m *txn.Manager, tx int, root api.Page, free func(r api.RID) bool) (int, int, api.Errno) {
	if free == nil {
		return 0, 0, api.ErrArg
	}
	leaves, e := leavesOf(m.Pool(), root)
	if e != api.OK {
		return 0, 0, e
	}
	if e := active(m, tx); e != api.OK {
		return 0, 0, e
	}
	ghosts := 0
	for _, l := range leaves {
		n, e := cleanLeaf(m, tx, l.page, free)
		if e != api.OK {
			return 0, 0, e
		}
		ghosts += n
	}
	empty, e := dropEmpty(m, tx, root, leaves)
	if e != api.OK {
		return 0, 0, e
	}
	levels, e := shrink(m, tx, root)
	if e != api.OK {
		return 0, 0, e
	}
	return ghosts, empty + levels, api.OK
}

// active tells whether a transaction may change something. Clean may find nothing to change, and so would not be told by that.
func active(m *txn.Manager, tx int) api.Errno {
	s, here := m.State(tx)
	if !here {
		return api.ErrTx
	}
	if s.State != api.TxActive {
		return api.ErrState
	}
	return api.OK
}

// leafAt is a leaf of a tree, and where it begins: an entry whose way leads to it, also when it is empty.
type leafAt struct {
	page api.Page
	from api.Entry
}

// leavesOf is all leaves of a tree that is well formed, in order.
func leavesOf(p *pool.Pool, root api.Page) ([]leafAt, api.Errno) {
	pages, e := tree.Check(p, root)
	if e != api.OK {
		return nil, e
	}
	var l []leafAt
	from := map[api.Page]api.Entry{}
	for _, n := range pages {
		x, e := p.Get(n)
		if e != api.OK {
			return nil, e
		}
		if x.Kind == api.KindLeaf {
			l = append(l, leafAt{page: n, from: from[n]})
			continue
		}
		children, e := node.Inner(x)
		if e != api.OK {
			return nil, e
		}
		for i, c := range children {
			// The first one begins where its parent does, whatever stands there.
			if i == 0 {
				c.From = from[n]
			}
			from[c.Page] = c.From
		}
	}
	return l, api.OK
}

// cleanLeaf takes those ghosts out of a leaf for which free answers true: how many.
func cleanLeaf(m *txn.Manager, tx int, n api.Page, free func(r api.RID) bool) (int, api.Errno) {
	x, e := m.Pool().Get(n)
	if e != api.OK {
		return 0, e
	}
	items, e := node.Leaf(x)
	if e != api.OK {
		return 0, e
	}
	places, e := freeGhosts(items, free)
	if e != api.OK {
		return 0, e
	}
	for _, at := range places {
		op, e := node.Take(x, at)
		if e != api.OK {
			return 0, e
		}
		if e := changeForGood(m, tx, n, op); e != api.OK {
			return 0, e
		}
	}
	return len(places), api.OK
}

// freeGhosts is the places of those ghosts for which free answers true, the last one first. Free is not the tree's own: a panic of it is an argument that may not be.
func freeGhosts(l []api.Item, free func(r api.RID) bool) (places []int, e api.Errno) {
	defer func() {
		if recover() != nil {
			places, e = nil, api.ErrArg
		}
	}()
	for at := len(l) - 1; at >= 0; at-- {
		if !l[at].Live && free(l[at].Entry.RID) {
			places = append(places, at)
		}
	}
	return places, api.OK
}
