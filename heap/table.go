package heap

import (
	"girder/api"
	"girder/txn"
)

// Pages is the pages of a table.
func Pages(m *txn.Manager, first api.Page) ([]api.Page, api.Errno) {
	pages, e := walk(m, first)
	if e != api.OK {
		return nil, e
	}
	l := make([]api.Page, 0, len(pages))
	for _, p := range pages {
		l = append(l, p.number)
	}
	return l, api.OK
}

// Scan is all rows of a table, by their places.
func Scan(m *txn.Manager, first api.Page) ([]api.Stored, api.Errno) {
	pages, e := walk(m, first)
	if e != api.OK {
		return nil, e
	}
	var l []api.Stored
	for _, p := range pages {
		for i, s := range p.slots {
			if s.live {
				l = append(l, api.Stored{RID: api.RID{Page: p.number, Slot: i}, Row: s.row})
			}
		}
	}
	return l, api.OK
}

// Place is the first place where a row may be put, of those that are free; none: a page more is needed.
func Place(m *txn.Manager, first api.Page, free func(r api.RID) bool) (api.RID, bool, api.Errno) {
	pages, e := walk(m, first)
	if e != api.OK {
		return api.RID{}, false, e
	}
	if free == nil {
		return api.RID{}, false, api.ErrArg
	}
	return firstFree(pages, free)
}

// Extend puts a page more behind a table's last one, as a nested top action.
func Extend(m *txn.Manager, tx int, first api.Page) api.Errno {
	pages, e := walk(m, first)
	if e != api.OK {
		return e
	}
	n, l, e := freshPage(m)
	if e != api.OK {
		return e
	}
	last := pages[len(pages)-1].number
	link := undoable(last, api.Op{Kind: api.OpHead, S: head(n), Old: head(0)})
	to, _ := m.Save(tx)
	if e := doAll(m, tx, append(l, link)...); e != api.OK {
		return e
	}
	// It has room: what was kept for these changes is not needed any more.
	_, e = m.Top(tx, to)
	return e
}

// walk is the pages of a table, and what they say.
func walk(m *txn.Manager, first api.Page) ([]sheet, api.Errno) {
	var pages []sheet
	for n := first; ; {
		// A table that leads back to a page of its own would have no end.
		if len(pages) == api.MaxPages {
			return nil, api.ErrHeap
		}
		p, e := fetch(m, n)
		if e != api.OK {
			return nil, e
		}
		pages = append(pages, p)
		if p.next == 0 {
			return pages, api.OK
		}
		n = p.next
	}
}

// firstFree is the first place without a live row for which free answers true. Free is not the heap's own: a panic of it is an argument that may not be.
func firstFree(pages []sheet, free func(r api.RID) bool) (r api.RID, found bool, e api.Errno) {
	defer func() {
		if recover() != nil {
			r, found, e = api.RID{}, false, api.ErrArg
		}
	}()
	for _, p := range pages {
		for _, at := range p.places() {
			if free(at) {
				return at, true, api.OK
			}
		}
	}
	return api.RID{}, false, api.OK
}

// places is the places of a page that have no live row, and the first one that is not there yet.
func (p sheet) places() []api.RID {
	var l []api.RID
	for i, s := range p.slots {
		if !s.live {
			l = append(l, api.RID{Page: p.number, Slot: i})
		}
	}
	if len(p.slots) < maxSlots {
		l = append(l, api.RID{Page: p.number, Slot: len(p.slots)})
	}
	return l
}
