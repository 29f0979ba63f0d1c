package smo_test

import (
	"maps"
	"slices"

	"girder/api"
)

// The model of a tree: its pages as values, changed by the words of the chapter, and which pages of the disk are taken.

// sheet is a page of the model: a leaf, if its level is 0.
type sheet struct {
	level    int
	next     api.Page
	items    []api.Item
	children []api.Child
}

// wood is a tree's pages, and the disk's.
type wood struct {
	root  api.Page
	room  api.Page
	pages map[api.Page]*sheet
	taken map[api.Page]bool
	gone  int // pages that went
	grew  int // how often a root grew
	cuts  [2]int
}

// newWood is a tree whose root is an empty leaf.
func newWood(root, room api.Page) *wood {
	w := &wood{root: root, room: room, pages: map[api.Page]*sheet{root: {}}, taken: map[api.Page]bool{1: true, 2: true, root: true}}
	return w
}

// longs is how long each slot of a page is, and how long its head.
func (x *sheet) longs() ([]int, int) {
	var l []int
	for _, y := range x.items {
		l = append(l, 7+len(y.Entry.Key))
	}
	for _, y := range x.children {
		l = append(l, 10+len(y.From.Key))
	}
	if x.level == 0 {
		return l, 4
	}
	return l, 1
}

// full tells whether a page is full.
func (x *sheet) full() bool {
	l, used := x.longs()
	used += 4 + 8 + 4 + 1 + 1 + 1 + 8
	for _, long := range l {
		used += 2 + long
	}
	need := 2 + 7 + 64
	if x.level > 0 {
		need = 2 + 10 + 64
	}
	return len(l) >= 64 || 512-used < need
}

// half is where a page is cut in two.
func (x *sheet) half() int {
	l, _ := x.longs()
	sum, upTo := 0, 0
	for _, long := range l {
		sum += long
	}
	for i, long := range l {
		if upTo += long; 2*upTo >= sum {
			return max(i, 1)
		}
	}
	panic("no half")
}

// down is the place of the child in which an entry would stand.
func (x *sheet) down(en api.Entry) int {
	at := 0
	for i, c := range x.children {
		if i > 0 && before(c.From, en) <= 0 {
			at = i
		}
	}
	return at
}

// take takes a page for the tree; 0: there is none.
func (w *wood) take(x *sheet) api.Page {
	for n := api.Page(1); n <= w.room; n++ {
		if !w.taken[n] {
			w.taken[n] = true
			w.pages[n] = x
			return n
		}
	}
	return 0
}

// drop lets a page go.
func (w *wood) drop(n api.Page) {
	delete(w.taken, n)
	delete(w.pages, n)
	w.gone++
}

// clean takes ghosts out of a leaf: how many.
func (x *sheet) clean(free func(api.RID) bool) int {
	was := len(x.items)
	x.items = slices.DeleteFunc(slices.Clone(x.items), func(y api.Item) bool { return !y.Live && free(y.Entry.RID) })
	return was - len(x.items)
}

// stillFull tells whether a page is full; a leaf is cleaned first.
func (x *sheet) stillFull(free func(api.RID) bool) bool {
	if x.full() && x.level == 0 && free != nil {
		x.clean(free)
	}
	return x.full()
}

// find is an entry's item, live or a ghost, and its leaf.
func (w *wood) find(en api.Entry) (*api.Item, *sheet) {
	x := w.pages[w.root]
	for x.level > 0 {
		x = w.pages[x.children[x.down(en)].Page]
	}
	for i := range x.items {
		if x.items[i].Entry == en {
			return &x.items[i], x
		}
	}
	return nil, x
}

// insert puts an entry in.
func (w *wood) insert(en api.Entry, free func(api.RID) bool) api.Errno {
	if y, _ := w.find(en); y != nil && y.Live {
		return api.ErrTwice
	}
	x := w.pages[w.root]
	if x.stillFull(free) {
		n := w.take(&sheet{level: x.level, next: x.next, items: x.items, children: x.children})
		if n == 0 {
			return api.ErrSpace
		}
		*x = sheet{level: x.level + 1, children: []api.Child{{Page: n}}}
		w.grew++
	}
	for x.level > 0 {
		at := x.down(en)
		n := x.children[at].Page
		if w.pages[n].stillFull(free) {
			if !w.cut(x, at, w.pages[n]) {
				return api.ErrSpace
			}
		}
		x = w.pages[x.children[x.down(en)].Page]
	}
	if y, _ := w.find(en); y != nil {
		y.Live = true
		return api.OK
	}
	x.items = append(slices.Clone(x.items), api.Item{Entry: en, Live: true})
	slices.SortFunc(x.items, func(a, b api.Item) int { return before(a.Entry, b.Entry) })
	return api.OK
}

// cut cuts a child in two, if there is a page for it.
func (w *wood) cut(parent *sheet, at int, x *sheet) bool {
	half := x.half()
	y := &sheet{level: x.level, next: x.next}
	var from api.Entry
	if x.level == 0 {
		y.items = slices.Clone(x.items[half:])
		from = y.items[0].Entry
	} else {
		y.children = slices.Clone(x.children[half:])
		from = y.children[0].From
		y.children[0].From = api.Entry{}
	}
	n := w.take(y)
	if n == 0 {
		return false
	}
	if x.level == 0 {
		x.items, x.next = x.items[:half], n
	} else {
		x.children = x.children[:half]
	}
	parent.children = slices.Insert(slices.Clone(parent.children), at+1, api.Child{Page: n, From: from})
	w.cuts[min(x.level, 1)]++
	return true
}

// leaves is the leaves in order.
func (w *wood) leaves() []api.Page {
	n := w.root
	for w.pages[n].level > 0 {
		n = w.pages[n].children[0].Page
	}
	var l []api.Page
	for ; n != 0; n = w.pages[n].next {
		l = append(l, n)
	}
	return l
}

// clean cleans the tree: how many ghosts, how many pages went.
func (w *wood) clean(free func(api.RID) bool) (int, int) {
	ghosts, was := 0, w.gone
	for _, n := range w.leaves() {
		ghosts += w.pages[n].clean(free)
	}
	for w.goOne() {
	}
	for x := w.pages[w.root]; len(x.children) == 1; x = w.pages[w.root] {
		n := x.children[0].Page
		*x = *w.pages[n]
		w.drop(n)
	}
	return ghosts, w.gone - was
}

// goOne lets the first empty leaf go, and tells whether there was one.
func (w *wood) goOne() bool {
	l := w.leaves()
	for i, n := range l {
		if len(l) == 1 || len(w.pages[n].items) > 0 {
			continue
		}
		if i > 0 {
			w.pages[l[i-1]].next = w.pages[n].next
		}
		w.takeOut(n)
		return true
	}
	return false
}

// takeOut takes a page out of its parent, and the parent out of its own, if it has no children any more.
func (w *wood) takeOut(n api.Page) {
	for p, x := range w.pages {
		at := slices.IndexFunc(x.children, func(c api.Child) bool { return c.Page == n })
		if at < 0 {
			continue
		}
		x.children = slices.Delete(slices.Clone(x.children), at, at+1)
		w.drop(n)
		if len(x.children) > 0 {
			x.children[0].From = api.Entry{}
		} else if p != w.root {
			w.takeOut(p)
		}
		return
	}
}

// all is the items in order.
func (w *wood) all() []api.Item {
	var l []api.Item
	for _, n := range w.leaves() {
		l = append(l, w.pages[n].items...)
	}
	return l
}

// sheets is the pages, as they must stand on the disk.
func (w *wood) sheets() []api.Sheet {
	var l []api.Sheet
	for _, n := range slices.Sorted(maps.Keys(w.pages)) {
		x := w.pages[n]
		if x.level == 0 {
			l = append(l, leafOf(n, x.next, x.items...))
		} else {
			l = append(l, innerOf(n, byte(x.level), x.children...))
		}
	}
	return l
}
