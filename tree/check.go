package tree

import (
	"slices"

	"girder/api"
	"girder/key"
	"girder/pool"
)

// anyLevel is the level that a root should have: it tells its level itself.
const anyLevel = -1

// check is what was met of a tree, as far as it was gone through.
type check struct {
	pool   *pool.Pool
	pages  []api.Page // each ahead of its children
	met    map[api.Page]struct{}
	next   api.Page  // what should be the next leaf, by the link of the last one
	linked bool      // whether there is such a link: what stands behind a page that the pool did not give is not known
	lack   api.Errno // why the pool did not give a page, the first one
}

// Check tells whether a tree is well formed, and which pages it has.
func Check(p *pool.Pool, root api.Page) ([]api.Page, api.Errno) {
	c := check{pool: p, met: map[api.Page]struct{}{}}
	if !c.page(root, anyLevel, span{open: true}) || c.linked && c.next != 0 {
		return nil, api.ErrNode
	}
	if c.lack != api.OK {
		return nil, c.lack
	}
	return c.pages, api.OK
}

// page goes through a page and all below it, and tells whether they may stand in a tree that is well formed.
func (c *check) page(n api.Page, level int, s span) bool {
	if _, again := c.met[n]; again {
		return false
	}
	c.met[n] = struct{}{}
	c.pages = append(c.pages, n)
	x, e := fetch(c.pool, n)
	if e == api.ErrNode {
		return false
	}
	if e != api.OK {
		c.pass(e)
		return true
	}
	if level != anyLevel && x.level != level {
		return false
	}
	if x.isLeaf() {
		return c.leaf(x, s)
	}
	return c.inner(x, s)
}

// pass goes on behind a page that the pool does not give: that a tree is not well formed is told ahead of it, wherever it shows.
func (c *check) pass(e api.Errno) {
	if c.lack == api.OK {
		c.lack = e
	}
	c.linked = false
}

// leaf looks at a leaf: its items, and whether the one ahead of it leads here.
func (c *check) leaf(x sheet, s span) bool {
	if c.linked && c.next != x.number {
		return false
	}
	c.next, c.linked = x.next, true
	entries := make([]api.Entry, 0, len(x.items))
	for _, y := range x.items {
		entries = append(entries, y.Entry)
	}
	return rise(entries) && s.holds(entries)
}

// inner looks at an inner page: its children, and all below them.
func (c *check) inner(x sheet, s span) bool {
	// Levels fall by one, down to the leaves: so the level of the root is how long all ways are.
	if x.level < 1 || x.level >= mostWay {
		return false
	}
	froms := make([]api.Entry, 0, len(x.children))
	for _, y := range x.children {
		froms = append(froms, y.From)
	}
	if froms[0] != (api.Entry{}) || !rise(froms) || !s.holds(froms[1:]) {
		return false
	}
	for i, y := range x.children {
		if !c.page(y.Page, x.level-1, s.part(froms, i)) {
			return false
		}
	}
	return true
}

// span is the bounds of a page: where it begins, and where the next one does.
type span struct {
	from, to api.Entry
	open     bool // there is no next one
}

// part is the bounds of a child, of the entries where all children begin.
func (s span) part(froms []api.Entry, at int) span {
	// The first one begins where the page itself does.
	if at > 0 {
		s.from = froms[at]
	}
	if at+1 < len(froms) {
		s.to, s.open = froms[at+1], false
	}
	return s
}

// holds tells whether all entries lie within the bounds.
func (s span) holds(l []api.Entry) bool {
	return !slices.ContainsFunc(l, func(e api.Entry) bool {
		return key.Entries(e, s.from) < 0 || !s.open && key.Entries(e, s.to) >= 0
	})
}

// rise tells whether each entry stands behind the one ahead of it.
func rise(l []api.Entry) bool {
	for i, e := range l {
		if i > 0 && key.Entries(l[i-1], e) >= 0 {
			return false
		}
	}
	return true
}
