package undo_test

import (
	"fmt"
	"slices"
	"strings"
	"testing"
	"unsafe"

	"girder/api"
	"girder/page"
	"girder/undo"
)

// loose is a text, and the memory in which it stands.
func loose(s string) (string, []byte) {
	b := []byte(s)
	if len(b) == 0 {
		return "", nil
	}
	return unsafe.String(&b[0], len(b)), b
}

// spoil lays something else in memory.
func spoil(l ...[]byte) {
	for _, b := range l {
		for i := range b {
			b[i] = '#'
		}
	}
}

// looseRec is a record whose texts stand in memory that is told.
func looseRec(r api.Rec) (api.Rec, [][]byte) {
	var a, b, c []byte
	r.Op.S, a = loose(r.Op.S)
	r.Op.Old, b = loose(r.Op.Old)
	r.Entry.Key, c = loose(r.Entry.Key)
	return r, [][]byte{a, b, c}
}

// R4: what Op tells shares no memory with the record, nor with the page.
func TestOpSharesNothing(t *testing.T) {
	l := append(each(5), each(1)...)
	l = append(l,
		there{mapOf("\x07"), api.Op{Kind: api.OpPut, S: "\x07", Old: "\x03"}, api.Op{Kind: api.OpPut, S: "\x03", Old: "\x07"}},
		there{page.Blank(5), api.Op{Kind: api.OpPut, S: "abc", Old: "def"}, api.Op{Kind: api.OpPut, S: "def", Old: "abc"}},
		there{page.Blank(5), api.Op{Kind: 77, S: "abc", Old: "def"}, api.Op{Kind: 77, S: "abc", Old: "def"}},
	)
	for _, c := range l {
		x := c.x
		var slots [][]byte
		for i, s := range x.Slots {
			s, b := loose(s)
			slots = append(slots, b)
			x.Slots[i] = s
		}
		r, texts := looseRec(byPage(x.Number, c.op))
		op, e := undo.Op(x, r)
		again, _ := undo.Op(x, r)
		spoil(slots...)
		spoil(texts...)
		if op != c.back || again != c.back || e != api.OK {
			t.Errorf("Op: %+v, %+v, %d, not %+v", op, again, e, c.back)
		}
		// Of more than a byte: all one-byte texts may stand in one place that nobody changes.
		if len(op.S) > 1 && unsafe.StringData(op.S) == unsafe.StringData(again.S) || len(op.Old) > 1 && unsafe.StringData(op.Old) == unsafe.StringData(again.Old) {
			t.Errorf("two answers share memory: %+v", op)
		}
	}
}

// R4: page and record stay as they are, spare room too.
func TestOpChangesNothing(t *testing.T) {
	room := []string{"a", "b", "spare", "room"}
	x := api.Sheet{Number: 5, LSN: 3, Kind: 2, Head: "head", Slots: room[:2]}
	for _, c := range each(5) {
		r := byPage(5, c.op)
		txs, dirty := []api.TxState{{Tx: 1}, {Tx: 2}}, []api.Dirty{{Page: 1}, {Page: 2}}
		r.Txs, r.Dirty = txs[:1], dirty[:1]
		was := fmt.Sprint(r, x)
		undo.Op(x, r)
		if fmt.Sprint(r, x) != was || !slices.Equal(room, []string{"a", "b", "spare", "room"}) || txs[1].Tx != 2 || dirty[1].Page != 2 {
			t.Errorf("changed: %v, %v", r, x)
		}
	}
	m := mapOf("\x07\xff")
	was := strings.Clone(m.Slots[0])
	undo.Op(m, byPage(api.MapPage, api.Op{Kind: api.OpPut, S: "\x07", Old: "\x03"}))
	if m.Slots[0] != was {
		t.Error("the map was changed")
	}
}

// R4: a record that is handed to One is not kept: neither page nor log have its memory.
func TestOneKeepsNothing(t *testing.T) {
	for _, c := range []struct {
		r    api.Rec
		want api.Sheet
	}{
		{byPage(5, api.Op{Kind: api.OpSet, S: "abc", Old: "before"}), sheet(5, api.KindHeap, "head", "before", "x")},
		{byPage(5, api.Op{Kind: api.OpRemove, At: 2, Old: "gone"}), sheet(5, api.KindHeap, "head", "abc", "x", "gone")},
		{byPage(5, api.Op{Kind: api.OpHead, S: "head", Old: "old head"}), sheet(5, api.KindHeap, "old head", "abc", "x")},
		{byPage(5, api.Op{Kind: api.OpPut, At: 1, S: "bc", Old: "yz"}), sheet(5, api.KindHeap, "head", "ayz", "x")},
		{byPage(1, api.Op{Kind: api.OpPut, S: "\x03", Old: "\x01"}), mapOf("\x01")},
		{api.Rec{Kind: api.RecUpdate, Undo: api.UndoKey, Index: 3, Entry: at("the key"), Live: true}, leafOf(3, ghost(at("the key")))},
	} {
		s := planted(t, sheet(5, api.KindHeap, "head", "abc", "x"), leafOf(3, live(at("the key"))))
		n := s.begin(t)
		from := s.l.End()
		r, texts := looseRec(c.r)
		wantErr(t, "One", undo.One(s.Manager, n, r), api.OK)
		if fmt.Sprint(r) != fmt.Sprint(c.r) {
			t.Errorf("the record was changed: %+v", r)
		}
		was := fmt.Sprint(records(t, s.l, from))
		spoil(texts...)
		s.wantPage(t, c.want)
		if is := fmt.Sprint(records(t, s.l, from)); is != was {
			t.Errorf("the log: %s, was %s", is, was)
		}
	}
}

// R5: the same calls come to the same, in two stores that have nothing in common.
func TestApart(t *testing.T) {
	a, b := play(t), play(t)
	a.to(t, a.n, a.saves[5])
	b.wantSame(t, "what was done elsewhere", b.seen[len(b.seen)-1])
	b.to(t, b.n, b.saves[5])
	b.wantSame(t, "the same calls", a.look(t))
	a.abort(t, a.n)
	b.abort(t, b.n)
	b.wantSame(t, "the same calls", a.look(t))
}
