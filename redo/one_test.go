package redo_test

import (
	"fmt"
	"slices"
	"strings"
	"testing"

	"girder/api"
	"girder/pool"
	"girder/redo"
)

// wantOne asks what One tells.
func (s store) wantOne(t *testing.T, what string, at api.LSN, r api.Rec, did bool, want api.Errno) {
	t.Helper()
	was := s.logged()
	if is, e := redo.One(s.p, at, r); is != did || e != want {
		t.Errorf("%s: %t, %d, not %t, %d", what, is, e, did, want)
	}
	if s.logged() != was {
		t.Errorf("%s: the log was changed", what)
	}
}

// 20.1: a record of another kind is ErrArg ahead of all else, and no page is looked at.
func TestOneOfOtherKinds(t *testing.T) {
	s := bare(t, 4)
	was := s.look()
	for _, at := range []api.LSN{0, 1, 99, far} {
		for _, r := range others() {
			s.wantOne(t, fmt.Sprint("kind ", r.Kind), at, r, false, api.ErrArg)
		}
		for _, kind := range []int{-1 << 63, -1, 0, 3, 4, 5, 6, 7, 8, 9, 257, 258, 1 << 32, 1<<32 + 1, 1<<63 - 1} {
			r := update(5, insert("a"))
			r.Kind = kind
			s.wantOne(t, fmt.Sprint("kind ", kind), at, r, false, api.ErrArg)
			r.Page = 0
			s.wantOne(t, fmt.Sprint("kind ", kind), at, r, false, api.ErrArg)
		}
	}
	if s.look() != was {
		t.Error("something was changed")
	}
	s.d.Crash(api.Fall{})
	s.wantOne(t, "the power is off", 9, others()[0], false, api.ErrArg)
}

// 20.1: the errors of pool.Get: of a page's number, of one that can't be read, of a power that is off, of a nil pool; ahead of what the page lacks, and of whether the change can be done.
func TestOnePoolErrors(t *testing.T) {
	ops := []api.Op{insert("a"), {}, {Kind: api.OpSet, S: "x", Old: "y"}}
	for _, op := range ops {
		for _, at := range []api.LSN{0, 1, far} {
			s := bare(t, 4)
			s.layBytes(t, 5, strings.Repeat("x", api.PageBytes))
			was := s.look()
			for n, want := range map[api.Page]api.Errno{
				0: api.ErrArg, api.MaxPages + 1: api.ErrArg, 1<<32 - 1: api.ErrArg,
				room + 1: api.ErrSpace, api.MaxPages: api.ErrSpace, 5: api.ErrCorrupt,
			} {
				for _, r := range both(n, op) {
					s.wantOne(t, fmt.Sprint("page ", n), at, r, false, want)
				}
			}
			for _, r := range both(4, op) {
				for _, p := range []*pool.Pool{nil, (*pool.Pool)(nil)} {
					if did, e := redo.One(p, at, r); did || e != api.ErrArg {
						t.Errorf("a nil pool: %t, %d", did, e)
					}
				}
			}
			if s.look() != was {
				t.Error("something was changed")
			}
			s.d.Crash(api.Fall{})
			s.wantOne(t, "the power is off", at, update(4, op), false, api.ErrDead)
			s.wantOne(t, "the power is off", at, clr(5, op), false, api.ErrDead)
			s.wantOne(t, "the power is off", at, clr(0, op), false, api.ErrArg)
		}
	}
}

// 20.1: a page that is in a frame is there, also when the power is off.
func TestOneInFrame(t *testing.T) {
	s := bare(t, 4)
	s.lay(t, sheet(4, 20, "b"))
	s.wantPage(t, sheet(4, 20, "b"))
	s.d.Crash(api.Fall{})
	s.wantOne(t, "in a frame", 20, update(4, insert("a")), false, api.OK)
	s.wantOne(t, "in a frame", 21, update(4, insert("a")), true, api.OK)
	s.wantPage(t, sheet(4, 21, "a", "b"))
}

// 20.1: the power fails when a page is to leave: ErrDead, and nothing is done; when it is back all goes on.
func TestOneFall(t *testing.T) {
	for call := range 6 {
		s := bare(t, 4)
		at := s.puts(t, update(5, insert("a")))[0]
		for n := range api.Page(4) {
			wantErr(t, "Put", s.p.Put(sheet(n+1, 1, "b")), api.OK)
		}
		s.d.Plan([]api.Fall{{At: s.d.Calls() + call}})
		s.wantOne(t, "a fall", at, update(5, insert("a")), false, api.ErrDead)
		if s.p.Has(5) {
			t.Error("page 5 is in a frame")
		}
		s.d.Up()
		s.wantOne(t, "behind it", at, update(5, insert("a")), true, api.OK)
		s.wantPage(t, api.Sheet{Number: 5, LSN: at, Slots: []string{"a"}})
	}
}

// change is a change, and a page ahead of it and behind it.
type change struct {
	op     api.Op
	is, to api.Sheet
}

// each is a change of each kind.
func each() []change {
	head := func(x api.Sheet, s string) api.Sheet { x.Head = s; return x }
	return []change{
		{api.Op{Kind: api.OpFormat, At: 9, S: "new"}, sheet(4, 0, "b"), api.Sheet{Number: 4, Kind: 9, Head: "new"}},
		{api.Op{Kind: api.OpInsert, At: 1, S: "a"}, sheet(4, 0, "b"), sheet(4, 0, "b", "a")},
		{api.Op{Kind: api.OpRemove, At: 1, Old: "c"}, sheet(4, 0, "b", "c", "d"), sheet(4, 0, "b", "d")},
		{api.Op{Kind: api.OpSet, At: 0, S: "long", Old: "b"}, sheet(4, 0, "b", "c"), sheet(4, 0, "long", "c")},
		{api.Op{Kind: api.OpHead, S: "tail", Old: "head"}, sheet(4, 0, "b"), head(sheet(4, 0, "b"), "tail")},
		{api.Op{Kind: api.OpPut, At: 1, S: "xy", Old: "bc"}, sheet(4, 0, "abcd"), sheet(4, 0, "axyd")},
		{api.Op{Kind: api.OpTurn, S: "\x07other", Old: "\x02head"}, sheet(4, 0), api.Sheet{Number: 4, Kind: 7, Head: "other"}},
	}
}

// 20.1: a page whose LSN is below the record's lacks the change: it is done, by each kind of change and of record, and its LSN is the record's.
func TestOneLacked(t *testing.T) {
	for _, c := range each() {
		for _, lsn := range []api.LSN{0, 1, 50, far - 1} {
			for _, at := range []api.LSN{1, 51, 1000, far} {
				if at <= lsn {
					continue
				}
				for _, r := range both(4, c.op) {
					s := bare(t, 4)
					c.is.LSN, c.to.LSN = lsn, at
					s.lay(t, c.is)
					calls := s.d.Calls()
					s.wantOne(t, fmt.Sprintf("%+v at %d of %d", r, at, lsn), at, r, true, api.OK)
					s.wantPage(t, c.to)
					s.wantDirty(t, api.Dirty{Page: 4, LSN: at})
					s.wantOne(t, "again", at, r, false, api.OK)
					s.wantPage(t, c.to)
					if numbers := s.p.Numbers(); !slices.Equal(numbers, []api.Page{4}) || s.d.Calls() != calls {
						t.Error("Numbers, Calls:", numbers, s.d.Calls()-calls)
					}
				}
			}
		}
	}
}

// 20.1: a page whose LSN is the record's, or above it, does not lack the change: false, and it stays as it was, whether the change could be done or not.
func TestOneThere(t *testing.T) {
	ops := []api.Op{insert("a"), {Kind: api.OpFormat, At: 9}, {}, {Kind: 8}, {Kind: api.OpSet, S: "x", Old: "y"}, {Kind: api.OpRemove, At: 63}}
	for _, c := range []struct{ lsn, at api.LSN }{{0, 0}, {1, 0}, {1, 1}, {50, 1}, {50, 49}, {50, 50}, {far, 1}, {far, far - 1}, {far, far}} {
		for _, op := range ops {
			for _, r := range both(4, op) {
				s := bare(t, 4)
				s.lay(t, sheet(4, c.lsn, "b"))
				s.wantOne(t, fmt.Sprintf("%+v at %d of %d", r, c.at, c.lsn), c.at, r, false, api.OK)
				s.wantPage(t, sheet(4, c.lsn, "b"))
				s.wantDirty(t)
			}
		}
	}
	// A page that was never written has the LSN 0.
	s := bare(t, 4)
	s.wantOne(t, "a blank page at 0", 0, update(4, insert("a")), false, api.OK)
	s.wantPage(t, api.Sheet{Number: 4})
	s.wantOne(t, "a blank page at 1", 1, update(4, insert("a")), true, api.OK)
	s.wantPage(t, api.Sheet{Number: 4, LSN: 1, Slots: []string{"a"}})
}

// refused is changes that a page of the slots "b" and "c" refuses.
func refused() []api.Op {
	long := strings.Repeat("x", 480)
	return []api.Op{
		{}, {Kind: -1}, {Kind: 8, S: "a"}, {Kind: api.OpFormat, At: 256}, {Kind: api.OpFormat, Old: "x"}, {Kind: api.OpInsert, At: -1}, {Kind: api.OpInsert, At: 64},
		{Kind: api.OpInsert, S: "a", Old: "b"}, {Kind: api.OpInsert, S: strings.Repeat("x", 513)}, {Kind: api.OpPut},
		{Kind: api.OpInsert, At: 3, S: "a"}, {Kind: api.OpInsert, S: long}, {Kind: api.OpRemove, At: 2, Old: ""}, {Kind: api.OpRemove, Old: "c"},
		{Kind: api.OpSet, At: 2, S: "a"}, {Kind: api.OpSet, S: "a", Old: "c"}, {Kind: api.OpSet, S: long, Old: "b"}, {Kind: api.OpHead, S: "a", Old: "other"},
		{Kind: api.OpPut, At: 1, S: "x", Old: "b"}, {Kind: api.OpPut, S: "x", Old: "c"}, {Kind: api.OpTurn, S: "\x01", Old: "\x02head"},
	}
}

// 20.1: a change that page.Apply refuses is ErrRedo, whatever Apply tells, and the page is as it was: clean, or dirty since when it was.
func TestOneRefused(t *testing.T) {
	for _, op := range refused() {
		for _, r := range both(4, op) {
			s := bare(t, 4)
			s.lay(t, sheet(4, 50, "b", "c"))
			s.wantOne(t, fmt.Sprintf("%+v", op), 51, r, false, api.ErrRedo)
			s.wantPage(t, sheet(4, 50, "b", "c"))
			s.wantDirty(t)
			wantErr(t, "Put", s.p.Put(sheet(4, 60, "b", "c")), api.OK)
			was := s.look()
			s.wantOne(t, fmt.Sprintf("%+v", op), 61, r, false, api.ErrRedo)
			if s.look() != was {
				t.Errorf("%+v: something was changed", op)
			}
			s.wantOne(t, "not lacked", 60, r, false, api.OK)
		}
	}
	s := bare(t, 4)
	s.lay(t, sheet(4, 50))
	s.wantOne(t, "another kind", 51, update(4, api.Op{Kind: api.OpTurn, S: "\x01", Old: "\x03head"}), false, api.ErrRedo)
	s.lay(t, sheet(5, 50, make([]string, api.MaxSlots)...))
	s.wantOne(t, "too many slots", 51, update(5, insert("")), false, api.ErrRedo)
	s.wantPage(t, sheet(5, 50, make([]string, api.MaxSlots)...))
}

// 20.1: of a record the kind, the page and the change count, and nothing else: it need not be one that may be.
func TestOneLooksAtNothingElse(t *testing.T) {
	for _, kind := range []int{api.RecUpdate, api.RecCLR} {
		s := bare(t, 4)
		r := api.Rec{
			Kind: kind, Tx: -5, Prev: far, Next: far, Page: 4, Op: insert("a"), Undo: 77, Index: -1, Entry: api.Entry{Key: strings.Repeat("x", 99)}, Live: true,
			Txs: []api.TxState{{Tx: -1}}, Dirty: []api.Dirty{{Page: 4, LSN: far}},
		}
		s.wantOne(t, "fields that may not be", 7, r, true, api.OK)
		s.wantPage(t, api.Sheet{Number: 4, LSN: 7, Slots: []string{"a"}})
		if len(r.Txs) != 1 || r.Txs[0].Tx != -1 || r.Dirty[0] != (api.Dirty{Page: 4, LSN: far}) {
			t.Errorf("%+v was changed", r)
		}
	}
}

// 20.1: one record behind the other: a page that is dirty stays so since its first change; pages leave by the picks, and are written then.
func TestOneBehindOne(t *testing.T) {
	s := bare(t, 4)
	var l []api.Rec
	for i := range 40 {
		l = append(l, both(api.Page(i%6+1), insert(fmt.Sprint(i)))[i%4])
	}
	at := s.puts(t, l...)
	s.p.Picks([]int{2, 0, 3, -7, 1})
	for i, r := range l {
		s.wantOne(t, "one behind the other", at[i], r, true, api.OK)
	}
	if fetched, written := s.p.Counts(); fetched < 7 || written < 2 {
		t.Error("Counts:", fetched, written)
	}
	for n := range 6 {
		want := api.Sheet{Number: api.Page(n + 1)}
		for i := n; i < len(l); i += 6 {
			want.LSN, want.Slots = at[i], slices.Insert(want.Slots, 0, fmt.Sprint(i))
		}
		s.wantPage(t, want)
	}
	s = bare(t, 4)
	s.wantOne(t, "the first one", 10, l[0], true, api.OK)
	s.wantOne(t, "the second one", 20, l[0], true, api.OK)
	s.wantDirty(t, api.Dirty{Page: 1, LSN: 10})
}
