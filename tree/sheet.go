package tree

import (
	"girder/api"
	"girder/node"
	"girder/pool"
)

// sheet is a page of a tree: an inner one, which has children, or a leaf, which has none.
type sheet struct {
	number   api.Page
	level    int         // of a leaf 0
	children []api.Child // of an inner page
	next     api.Page    // of a leaf; 0: it is the last one
	items    []api.Item  // of a leaf
}

// isLeaf tells whether it is a leaf.
func (x sheet) isLeaf() bool { return len(x.children) == 0 }

// fetch is a page of a tree.
func fetch(p *pool.Pool, n api.Page) (sheet, api.Errno) {
	x, e := p.Get(n)
	if e != api.OK {
		return sheet{}, e
	}
	if items, e := node.Leaf(x); e == api.OK {
		return sheet{number: n, next: node.Next(x), items: items}, api.OK
	}
	children, e := node.Inner(x)
	if e != api.OK || len(children) == 0 {
		return sheet{}, api.ErrNode
	}
	return sheet{number: n, level: node.Level(x), children: children}, api.OK
}
