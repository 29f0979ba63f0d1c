package heap

import (
	"strings"

	"girder/api"
	"girder/raw"
	"girder/txn"
)

const (
	headBytes = 4 // the number of the next page
	maxSlots  = 7 // of a page
)

// sheet is a page of rows.
type sheet struct {
	number api.Page
	next   api.Page // 0: it is the last one
	slots  []slot
}

// slot is a place, and the row that is there, or was there last.
type slot struct {
	live bool
	row  string
}

// fetch is a page of rows.
func fetch(m *txn.Manager, n api.Page) (sheet, api.Errno) {
	x, e := m.Pool().Get(n)
	if e != api.OK {
		return sheet{}, e
	}
	p, ok := parse(x)
	if !ok {
		return sheet{}, api.ErrHeap
	}
	return p, api.OK
}

// parse is what a page says, and whether it is one of rows.
func parse(x api.Sheet) (sheet, bool) {
	r := raw.NewReader(x.Head)
	p := sheet{number: x.Number, next: api.Page(r.Number(headBytes))}
	if x.Kind != api.KindHeap || r.End() != api.OK {
		return sheet{}, false
	}
	// That there are at most maxSlots need not be asked: more of such slots fit no page.
	for _, s := range x.Slots {
		y, ok := parseSlot(s)
		if !ok {
			return sheet{}, false
		}
		p.slots = append(p.slots, y)
	}
	return p, true
}

// parseSlot is what a slot's bytes say, and whether they are a slot's.
func parseSlot(s string) (slot, bool) {
	r := raw.NewReader(s)
	live := r.Bool()
	row := r.Bytes(int(r.Number(1)))
	rest := r.Bytes(api.MaxRow - len(row))
	if r.End() != api.OK || rest != zeros(len(rest)) {
		return slot{}, false
	}
	return slot{live: live, row: row}, true
}

// bytes is a slot's bytes, of a row that is not too long.
func (s slot) bytes() string {
	w := raw.NewWriter()
	w.Bool(s.live)
	w.Number(uint64(len(s.row)), 1)
	w.Bytes(s.row)
	w.Bytes(zeros(api.MaxRow - len(s.row)))
	return w.All()
}

// zeros is so many bytes 0.
func zeros(n int) string { return strings.Repeat("\x00", n) }
