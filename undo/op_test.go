package undo_test

import (
	"fmt"
	"math"
	"math/bits"
	"slices"
	"strings"
	"testing"

	"girder/api"
	"girder/page"
	"girder/undo"
)

// wantOp asks for what takes a record back.
func wantOp(t *testing.T, x api.Sheet, r api.Rec, want api.Op) {
	t.Helper()
	if op, e := undo.Op(x, r); op != want || e != api.OK {
		t.Errorf("Op of %+v: %+v, %d, not %+v", r, op, e, want)
	}
}

// wantNoOp asks for an error, and for nothing beside it.
func wantNoOp(t *testing.T, x api.Sheet, r api.Rec, want api.Errno) {
	t.Helper()
	if op, e := undo.Op(x, r); op != (api.Op{}) || e != want {
		t.Errorf("Op of %+v: %+v, %d, not %d", r, op, e, want)
	}
}

// there is a change of each kind that can be done to a page, and what takes it back.
type there struct {
	x        api.Sheet
	op, back api.Op
}

// each is changes of each kind, of pages of a number.
func each(n api.Page) []there {
	x := sheet(n, api.KindHeap, "head", "a", "b", "c")
	bare := sheet(n, api.KindLeaf, "\x07\x00\x00\x00")
	return []there{
		{page.Blank(n), api.Op{Kind: api.OpFormat, At: api.KindLeaf, S: "head"}, api.Op{Kind: api.OpFormat}},
		{x, api.Op{Kind: api.OpInsert, At: 0, S: "new"}, api.Op{Kind: api.OpRemove, At: 0, Old: "new"}},
		{x, api.Op{Kind: api.OpInsert, At: 3, S: ""}, api.Op{Kind: api.OpRemove, At: 3}},
		{x, api.Op{Kind: api.OpRemove, At: 1, Old: "b"}, api.Op{Kind: api.OpInsert, At: 1, S: "b"}},
		{x, api.Op{Kind: api.OpRemove, At: 2, Old: "c"}, api.Op{Kind: api.OpInsert, At: 2, S: "c"}},
		{x, api.Op{Kind: api.OpSet, At: 2, S: "longer", Old: "c"}, api.Op{Kind: api.OpSet, At: 2, S: "c", Old: "longer"}},
		{x, api.Op{Kind: api.OpHead, S: "", Old: "head"}, api.Op{Kind: api.OpHead, S: "head"}},
		{bare, api.Op{Kind: api.OpTurn, S: "\x04\x01", Old: "\x03\x07\x00\x00\x00"}, api.Op{Kind: api.OpTurn, S: "\x03\x07\x00\x00\x00", Old: "\x04\x01"}},
	}
}

// 16.1: of each kind of change what it tells brings the page back to what it was.
func TestOpBringsBack(t *testing.T) {
	l := append(each(5), each(2)...)
	long := sheet(5, api.KindMap, "", "abcdefgh", "b")
	l = append(l,
		there{long, api.Op{Kind: api.OpPut, At: 2, S: "XYZ", Old: "cde"}, api.Op{Kind: api.OpPut, At: 2, S: "cde", Old: "XYZ"}},
		there{long, api.Op{Kind: api.OpPut, At: 7, S: "i", Old: "h"}, api.Op{Kind: api.OpPut, At: 7, S: "h", Old: "i"}},
		there{mapOf("\x03"), api.Op{Kind: api.OpPut, At: 0, S: "\x07", Old: "\x03"}, api.Op{Kind: api.OpPut, At: 0, S: "\x03", Old: "\x07"}},
		there{mapOf("\x03"), api.Op{Kind: api.OpPut, At: 0, S: "\x01", Old: "\x03"}, api.Op{Kind: api.OpPut, At: 0, S: "\x03", Old: "\x01"}},
	)
	for _, c := range l {
		x, e := page.Apply(c.x, c.op, 9)
		wantErr(t, "Apply", e, api.OK)
		r := byPage(c.x.Number, c.op)
		wantOp(t, x, r, c.back)
		back, e := page.Apply(x, c.back, 10)
		if e != api.OK || !page.Same(back, c.x) {
			t.Errorf("behind %+v: %+v, %d, was %+v", c.back, back, e, c.x)
		}
	}
}

// 16.1: what a page has beside the change, and who did it, count for nothing, but in the map; whether the change fits neither.
func TestOpLooksAtNothingElse(t *testing.T) {
	for _, c := range each(5) {
		for _, x := range []api.Sheet{page.Blank(5), sheet(5, api.KindMap, "", "x"), sheet(5, 77, "other", "1", "2", "3", "4"), {Number: 5, Kind: -1, Slots: make([]string, 100)}} {
			r := byPage(5, c.op)
			r.Tx, r.Prev, r.Next = -7, 99, 44
			r.Index, r.Entry, r.Live = -1, entry("k", 3, 4), true
			r.Txs, r.Dirty = make([]api.TxState, 3), make([]api.Dirty, 2)
			wantOp(t, x, r, c.back)
		}
	}
	// What is no change is its own inverse (chapter 3).
	for _, kind := range []int{math.MinInt, -1, 0, 8, 99, math.MaxInt} {
		op := api.Op{Kind: kind, At: -3, S: "a", Old: "b"}
		for _, n := range []api.Page{0, 1, 5} {
			wantOp(t, page.Blank(n), byPage(n, op), op)
		}
	}
}

// 16.1: records that are no RecUpdate with UndoPage, and of other pages.
func TestOpWrongRecords(t *testing.T) {
	changes := append(each(5), each(1)...)
	// Of the map, too, also what would be ErrUndo.
	changes = append(changes, there{x: mapOf("\x07"), op: api.Op{Kind: api.OpPut, S: "\x07", Old: "\x03"}}, there{x: mapOf("\x07"), op: api.Op{Kind: api.OpPut, S: "\x07", Old: "\x07"}}, there{x: page.Blank(1), op: api.Op{Kind: api.OpPut}})
	for _, c := range changes {
		for _, kind := range []int{math.MinInt, -1, 0, api.RecCLR, api.RecTop, api.RecCommit, api.RecAbort, api.RecEnd, api.RecBegin, api.RecCheck, 9, math.MaxInt} {
			r := byPage(c.x.Number, c.op)
			r.Kind = kind
			wantNoOp(t, c.x, r, api.ErrArg)
		}
		for _, way := range []int{math.MinInt, -1, api.UndoNone, api.UndoKey, 3, math.MaxInt} {
			r := byPage(c.x.Number, c.op)
			r.Undo = way
			wantNoOp(t, c.x, r, api.ErrArg)
		}
		for _, n := range []api.Page{0, 1, 2, 4, 5, 6, 5 + 1<<16, math.MaxUint32} {
			if n != c.x.Number {
				wantNoOp(t, c.x, byPage(n, c.op), api.ErrArg)
			}
		}
	}
	wantNoOp(t, page.Blank(5), api.Rec{}, api.ErrArg)
	wantNoOp(t, api.Sheet{}, api.Rec{}, api.ErrArg)
}

// 16.1: an OpPut of the map whose S and Old are no one byte.
func TestOpOfNoOneByte(t *testing.T) {
	texts := []string{"", "\x00", "\x01", "\x00\x00", "\x01\x00", "\x00\x01", "abc", strings.Repeat("\x00", mapBytes), strings.Repeat("\x01", mapBytes)}
	for _, s := range texts {
		for _, old := range texts {
			if len(s) == 1 && len(old) == 1 {
				continue
			}
			for _, x := range []api.Sheet{mapOf(""), mapOf("\x01"), mapOf("\x03")} {
				wantNoOp(t, x, byPage(api.MapPage, api.Op{Kind: api.OpPut, S: s, Old: old}), api.ErrUndo)
			}
		}
	}
}

// 16.1: all pairs of bytes: one bit alone may be turned over.
func TestOpOfBytes(t *testing.T) {
	x := mapOf("\x5a\xa5")
	for a := range 256 {
		for b := range 256 {
			r := byPage(api.MapPage, api.Op{Kind: api.OpPut, At: 1, S: string([]byte{byte(a)}), Old: string([]byte{byte(b)})})
			if bits.OnesCount(uint(a^b)) != 1 {
				wantNoOp(t, x, r, api.ErrUndo)
				continue
			}
			wantOp(t, x, r, api.Op{Kind: api.OpPut, At: 1, S: string([]byte{0xa5 ^ byte(a^b)}), Old: "\xa5"})
		}
	}
}

// 16.1: a sheet that is no map, though it has its number.
func TestOpOfNoMap(t *testing.T) {
	zeros := strings.Repeat("\x00", mapBytes)
	r := byPage(api.MapPage, api.Op{Kind: api.OpPut, S: "\x01", Old: "\x00"})
	for _, x := range []api.Sheet{
		page.Blank(api.MapPage),
		sheet(api.MapPage, api.KindMap, ""),
		sheet(api.MapPage, api.KindMap, "", ""),
		sheet(api.MapPage, api.KindMap, "", zeros[1:]),
		sheet(api.MapPage, api.KindMap, "", zeros+"\x00"),
		sheet(api.MapPage, api.KindMap, "", zeros, zeros),
		sheet(api.MapPage, api.KindMap, "", zeros, ""),
		sheet(api.MapPage, api.KindHeap, "", zeros),
		sheet(api.MapPage, 0, "", zeros),
		sheet(api.MapPage, api.KindMap+256, "", zeros),
	} {
		wantNoOp(t, x, r, api.ErrUndo)
	}
	wantOp(t, sheet(api.MapPage, api.KindMap, "", zeros), r, api.Op{Kind: api.OpPut, S: "\x01", Old: "\x00"})
}

// R1: a place where the map has no byte has no bit that could be turned over.
func TestOpBesideTheMap(t *testing.T) {
	x := mapOf("\x01")
	for _, at := range []int{math.MinInt, -1 << 32, -256, -1, mapBytes, mapBytes + 1, 511, 512, 1 << 29, 1 << 32, math.MaxInt} {
		wantNoOp(t, x, byPage(api.MapPage, api.Op{Kind: api.OpPut, At: at, S: "\x01", Old: "\x00"}), api.ErrUndo)
	}
	for _, at := range []int{1, mapBytes - 1} {
		wantOp(t, x, byPage(api.MapPage, api.Op{Kind: api.OpPut, At: at, S: "\x01", Old: "\x00"}), api.Op{Kind: api.OpPut, At: at, S: "\x01", Old: "\x00"})
	}
}

// 16.1, the chapter's example: the bit is turned over as the map stands now, set or cleared; all others of its byte stay as they are.
func TestOpOfBits(t *testing.T) {
	for _, at := range []int{0, 1, 100, mapBytes - 1} {
		for bit := range 8 {
			for is := range 256 {
				slot := []byte(strings.Repeat("\x5a", mapBytes))
				slot[at] = byte(is)
				x := sheet(api.MapPage, api.KindMap, "", string(slot))
				slot[at] ^= 1 << bit
				want := sheet(api.MapPage, api.KindMap, "", string(slot))
				for _, set := range []bool{true, false} {
					// What it was when the bit was turned over counts for nothing.
					s, old := byte(0x33)|1<<bit, byte(0x33)&^(1<<bit)
					if !set {
						s, old = old, s
					}
					op, e := undo.Op(x, byPage(api.MapPage, api.Op{Kind: api.OpPut, At: at, S: string([]byte{s}), Old: string([]byte{old})}))
					wantErr(t, "Op", e, api.OK)
					if y, e := page.Apply(x, op, 7); e != api.OK || !page.Same(y, want) {
						t.Fatalf("the bit %d of the byte %d, %08b: %+v", bit, at, is, op)
					}
				}
			}
		}
	}
}

// 16.1: an OpPut of another page is taken back by its inverse, though that page is like a map.
func TestOpOfOtherPages(t *testing.T) {
	like := mapOf("\x07")
	for _, n := range []api.Page{0, 2, 3, 257, api.MaxPages, api.MaxPages + 1, math.MaxUint32} {
		like.Number = n
		for _, x := range []api.Sheet{like, page.Blank(n)} {
			for _, c := range [][2]string{{"\x01", "\x00"}, {"\x03", "\x00"}, {"\x00", "\x00"}, {"ab", "cd"}, {"", ""}, {"a", ""}} {
				for _, at := range []int{0, 255, 256, 511, -1} {
					wantOp(t, x, byPage(n, api.Op{Kind: api.OpPut, At: at, S: c[0], Old: c[1]}), api.Op{Kind: api.OpPut, At: at, S: c[1], Old: c[0]})
				}
			}
		}
	}
}

// 16.1: other changes of the map page are taken back by their inverses, whatever the page is now.
func TestOpOfTheMapOtherwise(t *testing.T) {
	for _, c := range each(api.MapPage) {
		for _, x := range []api.Sheet{c.x, mapOf("\x03"), page.Blank(api.MapPage)} {
			wantOp(t, x, byPage(api.MapPage, c.op), c.back)
		}
	}
	// As the map was laid.
	slot := mapOf("\x03").Slots[0]
	wantOp(t, mapOf("\xff"), byPage(api.MapPage, api.Op{Kind: api.OpInsert, S: slot}), api.Op{Kind: api.OpRemove, Old: slot})
}

// R5: the same again, whatever was asked for between.
func TestOpAgain(t *testing.T) {
	var first []string
	for range 3 {
		var l []string
		for _, c := range append(each(1), each(5)...) {
			op, e := undo.Op(c.x, byPage(c.x.Number, c.op))
			l = append(l, fmt.Sprint(op, e))
		}
		if first != nil && !slices.Equal(l, first) {
			t.Errorf("%v, not %v", l, first)
		}
		first = l
	}
}
