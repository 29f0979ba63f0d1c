package catalog

import (
	"cmp"
	"slices"

	"girder/api"
	"girder/heap"
	"girder/txn"
)

// stored is a row of the catalog, and its place.
type stored struct {
	row
	at api.RID
}

// All is all tables, by their numbers, each with its indexes.
func All(m *txn.Manager) ([]api.Table, api.Errno) {
	rows, e := read(m)
	if e != api.OK {
		return nil, e
	}
	return tablesOf(rows)
}

// Find is a table by its name.
func Find(m *txn.Manager, name string) (api.Table, api.Errno) {
	l, e := All(m)
	if e != api.OK {
		return api.Table{}, e
	}
	return find(l, named(name))
}

// read is all rows of the catalog, by their numbers.
func read(m *txn.Manager) ([]stored, api.Errno) {
	l, e := heap.Scan(m, api.RootPage)
	if e == api.ErrHeap {
		return nil, api.ErrCatalog
	}
	if e != api.OK {
		return nil, e
	}
	rows := make([]stored, 0, len(l))
	for _, x := range l {
		r, ok := parse(x.Row)
		if !ok {
			return nil, api.ErrCatalog
		}
		rows = append(rows, stored{r, x.RID})
	}
	slices.SortFunc(rows, func(a, b stored) int { return cmp.Compare(a.numbers[own], b.numbers[own]) })
	return rows, api.OK
}

// tablesOf is the tables that the rows of the catalog say.
func tablesOf(rows []stored) ([]api.Table, api.Errno) {
	var tables []api.Table
	for i, r := range rows {
		// Of two things of one number nobody can tell whose an index is.
		if i > 0 && r.numbers[own] == rows[i-1].numbers[own] {
			return nil, api.ErrCatalog
		}
		if r.kind == ofIndex {
			continue
		}
		t, ok := r.table()
		if !ok || slices.ContainsFunc(tables, named(t.Name)) {
			return nil, api.ErrCatalog
		}
		tables = append(tables, t)
	}
	for _, r := range rows {
		if r.kind == ofIndex && !addIndex(tables, r) {
			return nil, api.ErrCatalog
		}
	}
	return tables, api.OK
}

// addIndex gives the index that a row says to its table, and tells whether it may have it.
func addIndex(tables []api.Table, r stored) bool {
	x, ok := r.index()
	at := slices.IndexFunc(tables, func(t api.Table) bool { return t.ID == r.owner() })
	if !ok || at < 0 || !areOf(x.Cols, tables[at].Cols) || hasIndex(tables[at], x.Name) {
		return false
	}
	tables[at].Indexes = append(tables[at].Indexes, x)
	return true
}

// find is the first table of which is answers true.
func find(tables []api.Table, is func(t api.Table) bool) (api.Table, api.Errno) {
	at := slices.IndexFunc(tables, is)
	if at < 0 {
		return api.Table{}, api.ErrTable
	}
	return tables[at], api.OK
}

// named is what tells whether a table has a name.
func named(name string) func(t api.Table) bool {
	return func(t api.Table) bool { return t.Name == name }
}

// hasIndex tells whether a table has an index of a name.
func hasIndex(t api.Table, name string) bool {
	return slices.ContainsFunc(t.Indexes, func(x api.Index) bool { return x.Name == name })
}

// coming is the number of the next table or index.
func coming(tables []api.Table) (int, api.Errno) {
	most := 0
	for _, t := range tables {
		most = max(most, t.ID)
		for _, x := range t.Indexes {
			most = max(most, x.ID)
		}
	}
	if most >= maxNumber {
		return 0, api.ErrMany
	}
	return most + 1, api.OK
}
