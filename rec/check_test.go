package rec_test

import (
	"math"
	"testing"

	"girder/api"
	"girder/page"
	"girder/rec"
)

// expect asks Check, Encode and Long of a record: all are OK, or all tell ErrRec and nothing beside it.
func expect(t *testing.T, name string, r api.Rec, ok bool) {
	t.Helper()
	e := rec.Check(r)
	s, f := rec.Encode(r)
	long, g := rec.Long(r)
	if ok && (e != api.OK || f != api.OK || g != api.OK || s == "" || long != len(s)+12) {
		t.Errorf("%s: may be: Check %d, Encode %d bytes, %d, Long %d, %d", name, e, len(s), f, long, g)
	}
	if !ok && (e != api.ErrRec || f != api.ErrRec || g != api.ErrRec || s != "" || long != 0) {
		t.Errorf("%s: may not be: Check %d, Encode %d bytes, %d, Long %d, %d", name, e, len(s), f, long, g)
	}
}

// 4.1: ordinary records, and each field at its last value.
func TestCheckGood(t *testing.T) {
	for _, r := range good() {
		expect(t, "good", r, true)
	}
}

// 4.1: the zero Rec is no record.
func TestZeroRec(t *testing.T) {
	expect(t, "zero", api.Rec{}, false)
	if !rec.Same(api.Rec{}, api.Rec{}) || rec.Same(api.Rec{}, plain(api.RecCommit)) {
		t.Error("Same of the zero Rec")
	}
}

// 4.1: kinds, at the edges; of one that has nothing but Tx and Prev, all that are kinds of the plain ones may be.
func TestCheckKind(t *testing.T) {
	may := map[int]bool{3: true, 4: true, 5: true, 6: true, 7: true, 8: true}
	for _, kind := range []int{math.MinInt, -256, -1, 0, 1, 2, 3, 4, 5, 6, 7, 8, 9, 10, 255, 256, 257, 260, 1<<32 + 4, math.MaxInt} {
		expect(t, "plain", plain(kind), may[kind])
		r := update(api.UndoNone)
		r.Kind = kind
		expect(t, "with a change", r, kind == 1 || kind == 2)
	}
}

// numbers is numbers at the edges of those that Tx, Index and Slot may be, and some with the lowest bytes of good ones.
func numbers() []int {
	return []int{math.MinInt, -1 << 31, -65536, -1, 0, 1, 65535, 65536, 65537, 1<<31 - 1, 1 << 31, 1<<31 + 1, 1<<32 - 1, 1 << 32, 1<<32 + 3, math.MaxInt}
}

// 4.1: Tx is 0 to 2^31 - 1, whatever the kind.
func TestCheckTx(t *testing.T) {
	for _, r := range sorts() {
		for _, n := range numbers() {
			r.Tx = n
			expect(t, "Tx", r, n >= 0 && n <= 2147483647)
		}
	}
}

// 4.1: with a change Page is not 0.
func TestCheckPage(t *testing.T) {
	for _, r := range []api.Rec{update(0), update(1), update(2), clr()} {
		for _, n := range []api.Page{0, 1, 2, api.MaxPages, math.MaxUint32} {
			r.Page = n
			expect(t, "Page", r, n != 0)
		}
	}
}

// 4.1: with a change page.Check of Op is OK.
func TestCheckOp(t *testing.T) {
	may, not := 0, 0
	for kind := -1; kind <= 8; kind++ {
		for _, at := range []int{-1, 0, 1, 63, 64, 255, 256, 511, 512, 65536} {
			for _, longs := range [][2]int{{0, 0}, {1, 0}, {0, 1}, {1, 1}, {32, 0}, {33, 0}, {33, 33}, {34, 1}, {512, 0}, {0, 512}, {512, 512}, {513, 0}, {0, 513}, {513, 513}, {65535, 0}, {65536, 65536}} {
				op := api.Op{Kind: kind, At: at, S: pattern(longs[0]), Old: pattern(longs[1])}
				ok := page.Check(op) == api.OK
				for _, r := range []api.Rec{update(0), update(1), update(2), clr()} {
					r.Op = op
					expect(t, "Op", r, ok)
				}
				if ok {
					may++
				} else {
					not++
				}
			}
		}
	}
	if may < 50 || not < 50 {
		t.Error("too few of a sort:", may, not)
	}
}

// 4.1: Undo is one of the three, and UndoNone but for RecUpdate.
func TestCheckUndo(t *testing.T) {
	for _, undo := range []int{math.MinInt, -1, 0, 1, 2, 3, 4, 255, 256, 257, 258, math.MaxInt} {
		r := update(api.UndoPage)
		r.Undo = undo
		expect(t, "update", r, undo >= 0 && undo <= 2)
		for _, r := range sorts()[3:] {
			r.Undo = undo
			expect(t, "no update", r, undo == 0)
		}
		r = clr()
		r.Undo, r.Index, r.Entry, r.Live = undo, 7, api.Entry{Key: "key", RID: api.RID{Page: 1, Slot: 1}}, true
		expect(t, "CLR with a key", r, false)
	}
}

// 4.1: with UndoKey: Index, the key, the RID and Live.
func TestCheckKey(t *testing.T) {
	for _, n := range numbers() {
		ok := n >= 0 && n <= 65535
		r := update(api.UndoKey)
		r.Index = n
		expect(t, "Index", r, ok)
		r = update(api.UndoKey)
		r.Entry.RID.Slot = n
		expect(t, "Slot", r, ok)
	}
	for _, n := range []int{0, 1, 63, 64, 65, 66, 256, 257, 65535, 65536, 65600} {
		r := update(api.UndoKey)
		r.Entry.Key = pattern(n)
		expect(t, "Key", r, n <= 64)
	}
	for _, n := range []api.Page{0, 1, math.MaxUint32} {
		r := update(api.UndoKey)
		r.Entry.RID.Page = n
		expect(t, "RID.Page", r, true)
	}
	for _, live := range []bool{false, true} {
		r := update(api.UndoKey)
		r.Live = live
		expect(t, "Live", r, true)
		r.Index, r.Entry = 0, api.Entry{}
		expect(t, "an entry of zeros", r, true)
	}
}

// 4.1: at most MaxTx Txs, each with a Tx and a State that may be, wherever it stands.
func TestCheckTxs(t *testing.T) {
	for _, n := range []int{0, 1, 2, 63, 64, 65, 66, 256, 65535, 65536} {
		expect(t, "Txs", check(n, 0), n <= 64)
		expect(t, "Txs and Dirty", check(n, 256), n <= 64)
	}
	for _, at := range []int{0, 31, 63} {
		for _, n := range numbers() {
			r := check(64, 1)
			r.Txs[at].Tx = n
			expect(t, "Txs' Tx", r, n >= 0 && n <= 2147483647)
		}
		for _, n := range []int{math.MinInt, -1, 0, 1, 2, 3, 4, 5, 255, 256, 257, 259, math.MaxInt} {
			r := check(64, 1)
			r.Txs[at].State = n
			expect(t, "Txs' State", r, n >= 1 && n <= 3)
		}
		for _, n := range []api.LSN{0, 1, math.MaxUint64} {
			r := check(64, 1)
			r.Txs[at].Last, r.Txs[at].Next = n, n
			expect(t, "Txs' Last and Next", r, true)
		}
	}
	r := check(0, 0)
	r.Txs = []api.TxState{{}}
	expect(t, "a zero of Txs", r, false)
	r.Txs = []api.TxState{{Tx: 3, State: 1}, {Tx: 3, State: 1}}
	expect(t, "one of Txs twice", r, true)
}

// 4.1: at most MaxFrames Dirty, of which all may be.
func TestCheckDirty(t *testing.T) {
	for _, n := range []int{0, 1, 2, 255, 256, 257, 258, 65535, 65536} {
		expect(t, "Dirty", check(0, n), n <= 256)
		expect(t, "Dirty and Txs", check(64, n), n <= 256)
	}
	for _, at := range []int{0, 255} {
		for _, d := range []api.Dirty{{}, {Page: 1}, {LSN: 1}, {Page: math.MaxUint32, LSN: math.MaxUint64}} {
			r := check(0, 256)
			r.Dirty[at] = d
			expect(t, "one of Dirty", r, true)
		}
	}
}

// names is the fields that a record may have, but for the first three, by the chapter's words.
func names(r api.Rec) map[string]bool {
	n := map[string]bool{}
	if r.Kind == 2 || r.Kind == 3 {
		n["Next"] = true
	}
	if r.Kind == 1 || r.Kind == 2 {
		n["Page"], n["Op.Kind"], n["Op.At"], n["Op.S"], n["Op.Old"] = true, true, true, true, true
	}
	if r.Kind == 1 {
		n["Undo"] = true
	}
	if r.Kind == 1 && r.Undo == 2 {
		n["Index"], n["Entry.Key"], n["Entry.RID.Page"], n["Entry.RID.Slot"], n["Live"] = true, true, true, true, true
	}
	if r.Kind == 8 {
		n["Txs"], n["Dirty"] = true, true
	}
	return n
}

// 4.1: each field that a kind, or its Undo, does not name is zero.
func TestCheckUnnamed(t *testing.T) {
	refused := 0
	for _, r := range sorts() {
		named := names(r)
		for _, f := range fields()[3:] {
			if named[f.name] {
				continue
			}
			refused++
			q := copyOf(r)
			f.set(&q)
			expect(t, f.name, q, false)
		}
	}
	// Of fourteen fields each: 8 of an update without a key, twice, 3 with one, 8 of a CLR, 13 of a top, all of four plain ones, 12 of a checkpoint.
	if refused != 108 {
		t.Error("fields that are not named:", refused)
	}
}

// 4.1: each field that is named may be other than zero.
func TestCheckNamed(t *testing.T) {
	for _, r := range sorts() {
		named := names(r)
		for _, f := range []field{
			{"", func(r *api.Rec) { r.Prev = math.MaxUint64 }},
			{"Next", func(r *api.Rec) { r.Next = math.MaxUint64 }},
			{"Page", func(r *api.Rec) { r.Page = math.MaxUint32 }},
			{"Index", func(r *api.Rec) { r.Index = 65535 }},
			{"Entry.Key", func(r *api.Rec) { r.Entry.Key = pattern(64) }},
			{"Entry.RID.Page", func(r *api.Rec) { r.Entry.RID.Page = math.MaxUint32 }},
			{"Entry.RID.Slot", func(r *api.Rec) { r.Entry.RID.Slot = 65535 }},
			{"Live", func(r *api.Rec) { r.Live = true }},
			{"Txs", func(r *api.Rec) { r.Txs = txs(64) }},
			{"Dirty", func(r *api.Rec) { r.Dirty = dirty(256) }},
		} {
			q := copyOf(r)
			f.set(&q)
			expect(t, "named or not: "+f.name, q, f.name == "" || named[f.name])
		}
	}
}
