package rec_test

import (
	"math"
	"reflect"
	"slices"
	"testing"

	"girder/api"
	"girder/rec"
)

// pattern is n bytes of which neighbours differ, all 256 values among them.
func pattern(n int) string {
	b := make([]byte, n)
	for i := range n {
		b[i] = byte(i*167 + i>>8 + 1)
	}
	return string(b)
}

// txs is n transactions that all differ, in all three states.
func txs(n int) []api.TxState {
	l := make([]api.TxState, n)
	for i := range l {
		l[i] = api.TxState{Tx: i, State: 1 + i%3, Last: api.LSN(1000 + i), Next: api.LSN(2000 + i)}
	}
	return l
}

// dirty is n dirty pages that all differ.
func dirty(n int) []api.Dirty {
	l := make([]api.Dirty, n)
	for i := range l {
		l[i] = api.Dirty{Page: api.Page(i), LSN: api.LSN(3000 + i)}
	}
	return l
}

// update is a change with each of the three Undo.
func update(undo int) api.Rec {
	r := api.Rec{Kind: api.RecUpdate, Tx: 3, Prev: 9, Page: 5, Op: api.Op{Kind: api.OpSet, At: 2, S: "new", Old: "o"}, Undo: undo}
	if undo == api.UndoKey {
		r.Index, r.Entry, r.Live = 7, api.Entry{Key: "key", RID: api.RID{Page: 11, Slot: 4}}, true
	}
	return r
}

// clr is a change that takes another one back.
func clr() api.Rec {
	return api.Rec{Kind: api.RecCLR, Tx: 3, Prev: 9, Next: 6, Page: 5, Op: api.Op{Kind: api.OpRemove, At: 2, Old: "o"}}
}

// check is a checkpoint of n transactions and m dirty pages.
func check(n, m int) api.Rec {
	return api.Rec{Kind: api.RecCheck, Tx: 3, Prev: 9, Txs: txs(n), Dirty: dirty(m)}
}

// plain is a record of a kind that names nothing but Tx and Prev.
func plain(kind int) api.Rec { return api.Rec{Kind: kind, Tx: 3, Prev: 9} }

// sorts is a record of each kind, and of RecUpdate with each Undo.
func sorts() []api.Rec {
	return []api.Rec{
		update(api.UndoNone),
		update(api.UndoPage),
		update(api.UndoKey),
		clr(),
		{Kind: api.RecTop, Tx: 3, Prev: 9, Next: 6},
		plain(api.RecCommit),
		plain(api.RecAbort),
		plain(api.RecEnd),
		plain(api.RecBegin),
		check(2, 3),
	}
}

// good is records that may be, up to the last value of each field.
func good() []api.Rec {
	const most = api.LSN(math.MaxUint64)
	last := api.RID{Page: math.MaxUint32, Slot: 65535}
	set := api.Op{Kind: api.OpSet, At: 63, S: pattern(512), Old: pattern(511)}
	l := append(sorts(),
		api.Rec{Kind: api.RecUpdate, Page: 1, Op: api.Op{Kind: api.OpFormat}},
		api.Rec{Kind: api.RecUpdate, Page: 1, Op: api.Op{Kind: api.OpFormat, At: 255, S: pattern(32)}, Undo: api.UndoPage},
		api.Rec{Kind: api.RecUpdate, Page: 1, Op: api.Op{Kind: api.OpInsert}, Undo: api.UndoKey},
		api.Rec{Kind: api.RecUpdate, Page: 1, Op: api.Op{Kind: api.OpHead, S: "a"}, Undo: api.UndoKey, Live: true},
		api.Rec{Kind: api.RecUpdate, Page: 1, Op: api.Op{Kind: api.OpPut, At: 511, S: "\x00", Old: "\xff"}, Undo: api.UndoKey, Index: 258, Entry: api.Entry{Key: "\x00"}},
		api.Rec{Kind: api.RecUpdate, Tx: math.MaxInt32, Prev: most, Page: math.MaxUint32, Op: set, Undo: api.UndoKey, Index: 65535, Entry: api.Entry{Key: pattern(64), RID: last}, Live: true},
		api.Rec{Kind: api.RecCLR, Tx: math.MaxInt32, Prev: most, Next: most, Page: math.MaxUint32, Op: set},
		api.Rec{Kind: api.RecCLR, Page: 1, Op: api.Op{Kind: api.OpTurn, S: "a", Old: pattern(33)}},
		api.Rec{Kind: api.RecTop},
		api.Rec{Kind: api.RecTop, Tx: math.MaxInt32, Prev: most, Next: most},
		api.Rec{Kind: api.RecCommit},
		api.Rec{Kind: api.RecAbort, Tx: math.MaxInt32},
		api.Rec{Kind: api.RecEnd, Prev: most},
		api.Rec{Kind: api.RecBegin},
		api.Rec{Kind: api.RecCheck},
		check(0, 1),
		check(1, 0),
		check(64, 256),
		api.Rec{Kind: api.RecCheck, Tx: math.MaxInt32, Prev: most, Txs: []api.TxState{{Tx: math.MaxInt32, State: 3, Last: most, Next: most}, {State: 1}, {State: 1}}, Dirty: []api.Dirty{{Page: math.MaxUint32, LSN: most}, {}, {}}},
	)
	return l
}

// field is a field of a record: its name, and a value that is neither zero nor one of a record of sorts.
type field struct {
	name string
	set  func(r *api.Rec)
}

// fields is each field of a record, those within its parts too.
func fields() []field {
	return []field{
		{"Kind", func(r *api.Rec) { r.Kind = 99 }},
		{"Tx", func(r *api.Rec) { r.Tx = 99 }},
		{"Prev", func(r *api.Rec) { r.Prev = 99 }},
		{"Next", func(r *api.Rec) { r.Next = 99 }},
		{"Page", func(r *api.Rec) { r.Page = 99 }},
		{"Op.Kind", func(r *api.Rec) { r.Op.Kind = 99 }},
		{"Op.At", func(r *api.Rec) { r.Op.At = 99 }},
		{"Op.S", func(r *api.Rec) { r.Op.S = "99" }},
		{"Op.Old", func(r *api.Rec) { r.Op.Old = "99" }},
		{"Undo", func(r *api.Rec) { r.Undo = 99 }},
		{"Index", func(r *api.Rec) { r.Index = 99 }},
		{"Entry.Key", func(r *api.Rec) { r.Entry.Key = "99" }},
		{"Entry.RID.Page", func(r *api.Rec) { r.Entry.RID.Page = 99 }},
		{"Entry.RID.Slot", func(r *api.Rec) { r.Entry.RID.Slot = 99 }},
		{"Live", func(r *api.Rec) { r.Live = !r.Live }},
		{"Txs", func(r *api.Rec) { r.Txs = append(slices.Clone(r.Txs), api.TxState{State: 1}) }},
		{"Dirty", func(r *api.Rec) { r.Dirty = append(slices.Clone(r.Dirty), api.Dirty{}) }},
	}
}

// within is what is changed within the lists of a record that has two of each.
func within() []field {
	return []field{
		{"Txs[0].Tx", func(r *api.Rec) { r.Txs[0].Tx = 99 }},
		{"Txs[1].State", func(r *api.Rec) { r.Txs[1].State = 99 }},
		{"Txs[0].Last", func(r *api.Rec) { r.Txs[0].Last = 99 }},
		{"Txs[1].Next", func(r *api.Rec) { r.Txs[1].Next = 99 }},
		{"Txs in another order", func(r *api.Rec) { slices.Reverse(r.Txs) }},
		{"one of Txs", func(r *api.Rec) { r.Txs = r.Txs[:1] }},
		{"none of Txs", func(r *api.Rec) { r.Txs = nil }},
		{"Dirty[0].Page", func(r *api.Rec) { r.Dirty[0].Page = 99 }},
		{"Dirty[1].LSN", func(r *api.Rec) { r.Dirty[1].LSN = 99 }},
		{"Dirty in another order", func(r *api.Rec) { slices.Reverse(r.Dirty) }},
		{"one of Dirty", func(r *api.Rec) { r.Dirty = r.Dirty[:1] }},
		{"none of Dirty", func(r *api.Rec) { r.Dirty = nil }},
	}
}

// copyOf is a record with lists of its own; none of nothing, so that DeepEqual takes an empty list for no list.
func copyOf(r api.Rec) api.Rec {
	r.Txs = append([]api.TxState(nil), r.Txs...)
	r.Dirty = append([]api.Dirty(nil), r.Dirty...)
	return r
}

// equal tells whether two records are the same in all, without asking rec.
func equal(a, b api.Rec) bool { return reflect.DeepEqual(copyOf(a), copyOf(b)) }

// zero tells whether a record is the zero value.
func zero(r api.Rec) bool { return equal(r, api.Rec{}) && len(r.Txs) == 0 && len(r.Dirty) == 0 }

// full is a record with something in each field: it may not be, and is the same as itself.
func full() api.Rec {
	r := update(api.UndoKey)
	r.Next, r.Txs, r.Dirty = 6, txs(2), dirty(2)
	return r
}

// 4.1: a record is the same as itself and as a copy, whether it may be or not.
func TestSame(t *testing.T) {
	wrong := []api.Rec{{}, full(), {Kind: -1, Tx: math.MinInt, Undo: math.MaxInt}, {Kind: 9}, {Txs: txs(65), Dirty: dirty(257)}}
	for i, r := range append(good(), wrong...) {
		if q := copyOf(r); !rec.Same(r, r) || !rec.Same(r, q) || !rec.Same(q, r) {
			t.Errorf("%d: not the same: %+v", i, r)
		}
	}
}

// 4.1: two records that differ in just one field are not the same, for each field.
func TestSameButOneField(t *testing.T) {
	for _, f := range append(fields(), within()...) {
		r, q := full(), full()
		f.set(&q)
		if rec.Same(r, q) || rec.Same(q, r) {
			t.Errorf("%s: the same", f.name)
		}
	}
	for _, f := range fields() {
		r, q := api.Rec{}, api.Rec{}
		f.set(&q)
		if rec.Same(r, q) || rec.Same(q, r) {
			t.Errorf("%s: the same as the zero Rec", f.name)
		}
	}
}

// 4.1: numbers that are the same in their lowest bytes, and texts that begin alike, are not the same.
func TestSameAlike(t *testing.T) {
	r := full()
	for _, f := range []field{
		{"Kind", func(r *api.Rec) { r.Kind += 256 }},
		{"Tx", func(r *api.Rec) { r.Tx += 1 << 32 }},
		{"Prev", func(r *api.Rec) { r.Prev |= 1 << 63 }},
		{"Next", func(r *api.Rec) { r.Next |= 1 << 63 }},
		{"Page", func(r *api.Rec) { r.Page |= 1 << 31 }},
		{"Op.Kind", func(r *api.Rec) { r.Op.Kind += 256 }},
		{"Op.At", func(r *api.Rec) { r.Op.At += 65536 }},
		{"Op.S", func(r *api.Rec) { r.Op.S += "\x00" }},
		{"Op.Old", func(r *api.Rec) { r.Op.Old += "\x00" }},
		{"Undo", func(r *api.Rec) { r.Undo += 256 }},
		{"Index", func(r *api.Rec) { r.Index += 65536 }},
		{"Entry.Key", func(r *api.Rec) { r.Entry.Key += "\x00" }},
		{"Entry.RID.Page", func(r *api.Rec) { r.Entry.RID.Page |= 1 << 31 }},
		{"Entry.RID.Slot", func(r *api.Rec) { r.Entry.RID.Slot += 65536 }},
		{"Txs[0].Tx", func(r *api.Rec) { r.Txs[0].Tx += 1 << 32 }},
		{"Txs[0].State", func(r *api.Rec) { r.Txs[0].State += 256 }},
		{"Txs", func(r *api.Rec) { r.Txs = append(r.Txs, api.TxState{}) }},
		{"Dirty", func(r *api.Rec) { r.Dirty = append(r.Dirty, api.Dirty{}) }},
	} {
		q := full()
		f.set(&q)
		if rec.Same(r, q) || rec.Same(q, r) {
			t.Errorf("%s: the same", f.name)
		}
	}
}

// 4.1: no two of the records that may be are the same.
func TestSameAmongAll(t *testing.T) {
	l := good()
	for i := range l {
		for j := range l {
			if rec.Same(l[i], l[j]) != (i == j) {
				t.Errorf("%d and %d: %v", i, j, rec.Same(l[i], l[j]))
			}
		}
	}
}

// R3: a list that is nil and one that is empty are the same.
func TestEmptyLists(t *testing.T) {
	for _, r := range []api.Rec{update(0), update(1), update(2), clr(), plain(4), plain(7), check(0, 0), check(1, 0), check(0, 1)} {
		q, p := r, r
		if len(r.Txs) == 0 {
			q.Txs, p.Txs = nil, []api.TxState{}
		}
		if len(r.Dirty) == 0 {
			q.Dirty, p.Dirty = nil, make([]api.Dirty, 0, 4)
		}
		if !rec.Same(q, p) || !rec.Same(p, q) {
			t.Errorf("kind %d: not the same", r.Kind)
		}
		if e, f := rec.Check(q), rec.Check(p); e != api.OK || f != api.OK {
			t.Errorf("kind %d: Check %d, %d", r.Kind, e, f)
		}
		s, e := rec.Encode(q)
		u, f := rec.Encode(p)
		if s == "" || s != u || e != api.OK || f != api.OK {
			t.Errorf("kind %d: %x, %d and %x, %d", r.Kind, s, e, u, f)
		}
	}
}

// 4.1: a frame has twelve bytes beside the record.
func TestLong(t *testing.T) {
	for i, c := range []struct {
		r    api.Rec
		long int
	}{
		{plain(api.RecCommit), 25},
		{plain(api.RecAbort), 25},
		{plain(api.RecEnd), 25},
		{plain(api.RecBegin), 25},
		{api.Rec{Kind: api.RecTop}, 33},
		{api.Rec{Kind: api.RecCheck}, 29},
		{check(1, 0), 50},
		{check(0, 1), 41},
		{check(2, 3), 107},
		{check(64, 256), 29 + 64*21 + 256*12},
		{update(api.UndoNone), 41},
		{update(api.UndoPage), 41},
		{update(api.UndoKey), 55},
		{clr(), 46},
		{api.Rec{Kind: api.RecUpdate, Page: 1, Op: api.Op{Kind: api.OpSet, S: pattern(512), Old: pattern(512)}, Undo: api.UndoKey, Entry: api.Entry{Key: pattern(64)}}, 37 + 1024 + 11 + 64},
	} {
		if long, e := rec.Long(c.r); long != c.long || e != api.OK {
			t.Errorf("%d: %d, %d, not %d", i, long, e, c.long)
		}
	}
	for i, r := range good() {
		s, _ := rec.Encode(r)
		if long, e := rec.Long(r); long != len(s)+12 || e != api.OK || len(s) > api.MaxRecord {
			t.Errorf("%d: %d, %d, of %d bytes", i, long, e, len(s))
		}
	}
}

// R4: what is handed in is not changed, the spare room behind its lists neither.
func TestNothingIsChanged(t *testing.T) {
	for i, r := range append(good(), full(), api.Rec{}) {
		was := copyOf(r)
		r.Txs = append(slices.Grow(slices.Clone(r.Txs), 2), api.TxState{Tx: 77, State: 7}, api.TxState{Tx: 78})[:len(r.Txs)]
		r.Dirty = append(slices.Grow(slices.Clone(r.Dirty), 2), api.Dirty{Page: 77}, api.Dirty{Page: 78})[:len(r.Dirty)]
		rec.Check(r)
		rec.Encode(r)
		rec.Long(r)
		rec.Same(r, r)
		n, m := len(r.Txs), len(r.Dirty)
		behind, after := r.Txs[n:n+2], r.Dirty[m:m+2]
		if !equal(r, was) || behind[0].Tx != 77 || behind[1].Tx != 78 || after[0].Page != 77 || after[1].Page != 78 {
			t.Errorf("%d: changed: %+v", i, r)
		}
	}
}
