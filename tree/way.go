package tree

import (
	"slices"

	"girder/api"
	"girder/node"
	"girder/pool"
)

// mostWay is how many pages a way has at most.
const mostWay = 32

// goDown is the way of an entry, and the leaf at its end.
func goDown(p *pool.Pool, root api.Page, en api.Entry) ([]api.Page, sheet, api.Errno) {
	var way []api.Page
	for n := root; len(way) < mostWay; {
		x, e := fetch(p, n)
		if e != api.OK {
			return nil, sheet{}, e
		}
		way = append(way, n)
		if x.isLeaf() {
			return way, x, api.OK
		}
		n = x.children[node.Down(x.children, en)].Page
	}
	return nil, sheet{}, api.ErrNode
}

// goOn visits the leaves from one on by their links, as long as visit says that more are wanted.
func goOn(p *pool.Pool, from sheet, visit func(x sheet) bool) api.Errno {
	met := map[api.Page]struct{}{}
	for x := from; visit(x) && x.next != 0; {
		met[x.number] = struct{}{}
		// Leaves that lead back to one of them would have no end.
		if _, again := met[x.next]; again {
			return api.ErrNode
		}
		next, e := fetch(p, x.next)
		if e != api.OK {
			return e
		}
		if !next.isLeaf() {
			return api.ErrNode
		}
		x = next
	}
	return api.OK
}

// firstFrom is the first item, from the leaf of an entry on, whose entry is wanted.
func firstFrom(p *pool.Pool, root api.Page, en api.Entry, wanted func(x api.Entry) bool) (api.Item, bool, api.Errno) {
	_, leaf, e := goDown(p, root, en)
	if e != api.OK {
		return api.Item{}, false, e
	}
	var first api.Item
	found := false
	e = goOn(p, leaf, func(x sheet) bool {
		at := slices.IndexFunc(x.items, func(y api.Item) bool { return wanted(y.Entry) })
		if at >= 0 {
			first, found = x.items[at], true
		}
		return !found
	})
	return first, found, e
}

// allLeaves is all leaves of a tree, in order; with an error those ahead of it.
func allLeaves(p *pool.Pool, root api.Page) ([]sheet, api.Errno) {
	_, leaf, e := goDown(p, root, api.Entry{})
	if e != api.OK {
		return nil, e
	}
	var l []sheet
	e = goOn(p, leaf, func(x sheet) bool {
		l = append(l, x)
		return true
	})
	return l, e
}
