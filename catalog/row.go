package catalog

import (
	"girder/api"
	"girder/key"
)

const (
	ofTable = "t" // ahead of a table's name
	ofIndex = "i" // ahead of an index's name

	rootBits  = 32 // of an index's root, behind its table's number
	colBits   = 4  // of a column
	countBits = 8  // of how many columns there are

	maxNumber = 1<<15 - 1 // of a table or an index
)

// Places of the numbers of a row.
const (
	own     = 0 // its own number
	begins  = 1 // a table's first page; an index's table and root
	columns = 2 // how many columns a table has; which ones an index has, and whether it is unique
)

// row is a row of the catalog.
type row struct {
	kind, name string
	numbers    [3]int64
}

// rowOfTable is a table's row.
func rowOfTable(t api.Table) row {
	return row{ofTable, t.Name, [...]int64{own: int64(t.ID), begins: int64(t.First), columns: int64(t.Cols)}}
}

// rowOfIndex is the row of an index of a table.
func rowOfIndex(table int, x api.Index) row {
	return row{ofIndex, x.Name, [...]int64{own: int64(x.ID), begins: int64(table)<<rootBits | int64(x.Root), columns: pack(x.Cols, x.Unique)}}
}

// bytes is a row's bytes.
func (r row) bytes() (string, api.Errno) {
	l := []api.Value{{Kind: api.ValueText, S: r.kind + r.name}}
	for _, n := range r.numbers {
		l = append(l, api.Value{Kind: api.ValueInt, N: n})
	}
	return key.Row(l)
}

// parse is what a row's bytes say, and whether they have the form of a row.
func parse(s string) (row, bool) {
	var r row
	l, e := key.Values(s)
	if e != api.OK || len(l) != 1+len(r.numbers) || len(l[0].S) < len(ofTable) {
		return row{}, false
	}
	r.kind, r.name = l[0].S[:len(ofTable)], l[0].S[len(ofTable):]
	for i, v := range l[1:] {
		if v.Kind != api.ValueInt {
			return row{}, false
		}
		r.numbers[i] = v.N
	}
	return r, Name(r.name) && 1 <= r.numbers[own] && r.numbers[own] <= maxNumber
}

// table is the table that a row says, and whether it says one that may be.
func (r row) table() (api.Table, bool) {
	t := api.Table{Name: r.name, ID: int(r.numbers[own]), First: api.Page(r.numbers[begins]), Cols: int(r.numbers[columns])}
	// A number that was cut short makes another row.
	return t, rowOfTable(t) == r && isPage(t.First) && mayHave(t.Cols)
}

// index is the index that a row says, and whether it says one that may be.
func (r row) index() (api.Index, bool) {
	l, unique := unpack(r.numbers[columns])
	x := api.Index{Name: r.name, ID: int(r.numbers[own]), Root: api.Page(r.numbers[begins]), Cols: l, Unique: unique}
	return x, rowOfIndex(r.owner(), x) == r && isPage(x.Root)
}

// owner is the number of the table that a row is of.
func (r row) owner() int {
	if r.kind == ofIndex {
		return int(r.numbers[begins] >> rootBits)
	}
	return int(r.numbers[own])
}

// pack is an index's columns, and whether it is unique, as one number.
func pack(l []int, unique bool) int64 {
	n := int64(len(l))
	for _, c := range l {
		n = n<<colBits | int64(c)
	}
	n <<= 1
	if unique {
		n |= 1
	}
	return n<<countBits | int64(len(l))
}

// unpack is the columns that a number says, and whether an index is unique; of a number that pack does not make, any.
func unpack(n int64) ([]int, bool) {
	l := make([]int, n&(1<<countBits-1))
	n >>= countBits
	unique := n&1 == 1
	n >>= 1
	for i := len(l) - 1; i >= 0; i-- {
		l[i] = int(n & (1<<colBits - 1))
		n >>= colBits
	}
	return l, unique
}

// mayHave tells whether a table may have so many columns.
func mayHave(many int) bool { return 1 <= many && many <= api.MaxCols }

// areOf tells whether there are columns, not more than a table has, and all of them the table's.
func areOf(l []int, many int) bool {
	for _, c := range l {
		if c < 0 || c >= many {
			return false
		}
	}
	return 1 <= len(l) && len(l) <= many
}

// isPage tells whether there may be a page of a number.
func isPage(n api.Page) bool { return 1 <= n && n <= api.MaxPages }
