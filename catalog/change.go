package catalog

import (
	"slices"
	"strings"

	"girder/api"
	"girder/heap"
	"girder/smo"
	"girder/txn"
	"girder/undo"
)

// Create creates a table.
func Create(m *txn.Manager, tx int, name string, cols int) (api.Table, api.Errno) {
	if !Name(name) {
		return api.Table{}, api.ErrName
	}
	if !mayHave(cols) {
		return api.Table{}, api.ErrCols
	}
	tables, e := All(m)
	if e != api.OK {
		return api.Table{}, e
	}
	if slices.ContainsFunc(tables, named(name)) {
		return api.Table{}, api.ErrTwice
	}
	id, e := coming(tables)
	if e != api.OK || len(tables) >= api.MaxTables {
		return api.Table{}, api.ErrMany
	}
	t := api.Table{Name: strings.Clone(name), ID: id, Cols: cols}
	e = wholly(m, tx, func() (e api.Errno) {
		if t.First, e = heap.Create(m, tx); e != api.OK {
			return e
		}
		return put(m, tx, rowOfTable(t))
	})
	if e != api.OK {
		return api.Table{}, e
	}
	return t, api.OK
}

// CreateIndex creates an index of a table that has no rows.
func CreateIndex(m *txn.Manager, tx int, table, name string, cols []int, unique bool) (api.Index, api.Errno) {
	if !Name(name) {
		return api.Index{}, api.ErrName
	}
	tables, e := All(m)
	if e != api.OK {
		return api.Index{}, e
	}
	t, e := find(tables, named(table))
	if e != api.OK {
		return api.Index{}, e
	}
	if e := mayIndex(m, t, name, cols); e != api.OK {
		return api.Index{}, e
	}
	id, e := coming(tables)
	if e != api.OK {
		return api.Index{}, e
	}
	x := api.Index{Name: strings.Clone(name), ID: id, Cols: slices.Clone(cols), Unique: unique}
	e = wholly(m, tx, func() (e api.Errno) {
		if x.Root, e = smo.Create(m, tx); e != api.OK {
			return e
		}
		return put(m, tx, rowOfIndex(t.ID, x))
	})
	if e != api.OK {
		return api.Index{}, e
	}
	return x, api.OK
}

// mayIndex tells whether a table may have one more index.
func mayIndex(m *txn.Manager, t api.Table, name string, cols []int) api.Errno {
	if !areOf(cols, t.Cols) {
		return api.ErrCols
	}
	if hasIndex(t, name) {
		return api.ErrTwice
	}
	if len(t.Indexes) >= api.MaxIndex {
		return api.ErrMany
	}
	rows, e := heap.Scan(m, t.First)
	if e == api.OK && len(rows) > 0 {
		return api.ErrRows
	}
	return e
}

// Drop takes a table and its indexes out of the catalog: their first pages and roots.
func Drop(m *txn.Manager, tx int, name string) (api.Table, api.Errno) {
	rows, e := read(m)
	if e != api.OK {
		return api.Table{}, e
	}
	tables, e := tablesOf(rows)
	if e != api.OK {
		return api.Table{}, e
	}
	t, e := find(tables, named(name))
	if e != api.OK {
		return api.Table{}, e
	}
	e = wholly(m, tx, func() api.Errno {
		for _, r := range rows {
			if r.owner() != t.ID {
				continue
			}
			if e := heap.Delete(m, tx, r.at); e != api.OK {
				return e
			}
		}
		return api.OK
	})
	if e != api.OK {
		return api.Table{}, e
	}
	return t, api.OK
}

// wholly does something wholly or not at all: what was done ahead of an error is taken back.
func wholly(m *txn.Manager, tx int, do func() api.Errno) api.Errno {
	// A transaction that is none is told by what is done.
	to, _ := m.Save(tx)
	e := do()
	if e == api.OK {
		return api.OK
	}
	// Only if something was done: looking for it would move where undoing goes on.
	if now, _ := m.Save(tx); now != to {
		undo.To(m, tx, to)
	}
	return e
}

// put puts a row into the catalog.
func put(m *txn.Manager, tx int, r row) api.Errno {
	s, e := r.bytes()
	if e != api.OK {
		return e
	}
	at, there, e := heap.Place(m, api.RootPage, anywhere)
	if e != api.OK {
		return e
	}
	if !there {
		if e := heap.Extend(m, tx, api.RootPage); e != api.OK {
			return e
		}
		if at, _, e = heap.Place(m, api.RootPage, anywhere); e != api.OK {
			return e
		}
	}
	return heap.Put(m, tx, at, s)
}

// anywhere takes each place as a free one: who creates and drops is alone with the catalog until it ends.
func anywhere(api.RID) bool { return true }
