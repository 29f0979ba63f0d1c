package redo_test

import (
	"fmt"
	"slices"
	"strings"
	"testing"

	"girder/api"
	"girder/disk"
	"girder/pool"
	"girder/redo"
)

// rows is a log of inserts into one page, and where they stand: "0", "1" .. .
func rows(t *testing.T, n api.Page, many int) (store, []api.LSN) {
	t.Helper()
	s := bare(t, 4)
	var at []api.LSN
	for i := range many {
		at = append(at, s.put(t, both(n, insert(fmt.Sprint(i)))[i%4]))
	}
	return s, at
}

// behind is a page into which the rows were put that are told, the last one first.
func behind(n api.Page, at []api.LSN, told ...int) api.Sheet {
	x := api.Sheet{Number: n}
	for _, i := range told {
		x.LSN, x.Slots = at[i], slices.Insert(x.Slots, 0, fmt.Sprint(i))
	}
	return x
}

// upTo is the numbers from one to one ahead of another.
func upTo(from, to int) []int {
	var l []int
	for i := from; i < to; i++ {
		l = append(l, i)
	}
	return l
}

// 20.1: a nil pool is ErrArg, whatever was found.
func TestRunNil(t *testing.T) {
	var none *pool.Pool
	for _, f := range []api.Found{{}, {Redo: 1}, {Redo: far}, {Dirty: dirty(1, 3), Redo: 1, Most: 3, Records: 5}} {
		if did, stood, e := redo.Run(none, f); did != 0 || stood != 0 || e != api.ErrArg {
			t.Errorf("%+v: %d, %d, %d", f, did, stood, e)
		}
	}
}

// 20.1: with nothing dirty nothing is done, wherever Redo is, and no page is looked at.
func TestNothingDirty(t *testing.T) {
	for many := range 4 {
		s, at := rows(t, 3, many)
		s.puts(t, others()...)
		was := s.look()
		for _, from := range append([]api.LSN{0, 1, s.l.End(), s.l.End() + 1, far}, at...) {
			s.wantRun(t, "nothing dirty", api.Found{Redo: from}, 0, 0)
			s.wantRun(t, "nothing dirty", api.Found{Txs: []api.TxState{{Tx: 3, State: api.TxActive, Last: 1, Next: 1}}, Redo: from, Most: 9, Records: many}, 0, 0)
		}
		if s.look() != was {
			t.Error("something was changed")
		}
		s.d.Crash(api.Fall{})
		s.wantRun(t, "the power is off", api.Found{Redo: 1}, 0, 0)
	}
}

// 20.1: an empty log has nothing to be repeated.
func TestEmptyLog(t *testing.T) {
	s := bare(t, 4)
	for _, from := range []api.LSN{0, 1, 2, far} {
		s.wantRun(t, "an empty log", api.Found{Dirty: dirty(1, 1, 2, 3), Redo: from}, 0, 0)
	}
	if len(s.p.Numbers()) > 0 {
		t.Error("in frames:", s.p.Numbers())
	}
}

// 20.1: what stands ahead of Redo is not repeated, what stands at it and behind it is: Redo at each record, at the end and behind it.
func TestFromRedo(t *testing.T) {
	for from := range 9 {
		for _, since := range []api.LSN{0, 1} {
			s, at := rows(t, 3, 8)
			first := append(at, s.l.End())[from]
			s.wantRun(t, fmt.Sprint("from ", from), api.Found{Dirty: dirty(since, 3), Redo: first}, 8-from, 0)
			s.wantPage(t, behind(3, at, upTo(from, 8)...))
			// Now its LSN is the last one's: what stands ahead of Redo is not lacked any more.
			if from < 8 {
				s.wantRun(t, "from 0 on", api.Found{Dirty: dirty(since, 3), Redo: 1}, 0, 8)
			}
		}
	}
	for _, from := range []api.LSN{0, 1} {
		s, at := rows(t, 3, 8)
		s.wantRun(t, "from the first record on", api.Found{Dirty: dirty(0, 3), Redo: from}, 8, 0)
		s.wantPage(t, behind(3, at, upTo(0, 8)...))
	}
	for _, more := range []api.LSN{1, 2, 500} {
		s, _ := rows(t, 3, 8)
		s.wantRun(t, "from behind the end on", api.Found{Dirty: dirty(1, 3), Redo: s.l.End() + more}, 0, 0)
		s.wantRun(t, "from behind the end on", api.Found{Dirty: dirty(1, 3), Redo: far}, 0, 0)
	}
}

// 20.1: of a page's records those ahead of its LSN in Dirty are not repeated, that at it and those behind it are: that LSN at each record, a byte ahead of it and a byte behind it.
func TestFromDirty(t *testing.T) {
	for from := range 8 {
		for _, off := range []int{-1, 0, 1} {
			s, at := rows(t, 3, 8)
			since := at[from] + api.LSN(off)
			first := from + max(off, 0)
			s.wantRun(t, fmt.Sprint("from ", from, " and ", off), api.Found{Dirty: dirty(since, 3), Redo: 1}, 8-first, 0)
			s.wantPage(t, behind(3, at, upTo(first, 8)...))
		}
	}
	s, _ := rows(t, 3, 8)
	for _, since := range []api.LSN{s.l.End(), s.l.End() + 1, far} {
		s.wantRun(t, "dirty from behind the end on", api.Found{Dirty: dirty(since, 3), Redo: 1}, 0, 0)
	}
	if s.p.Has(3) {
		t.Error("page 3 was looked at")
	}
}

// 20.1: both bounds hold, whichever is the later one; of a page that is told twice the earlier place counts, in either order.
func TestFromBoth(t *testing.T) {
	for from := range 8 {
		for since := range 8 {
			first := max(from, since)
			s, at := rows(t, 3, 8)
			s.wantRun(t, "both", api.Found{Dirty: dirty(at[since], 3), Redo: at[from]}, 8-first, 0)
			s.wantPage(t, behind(3, at, upTo(first, 8)...))
			s, at = rows(t, 3, 8)
			twice := append(dirty(at[since], 3), append(dirty(at[1], 4), dirty(at[from], 3)...)...)
			first = min(from, since)
			s.wantRun(t, "twice", api.Found{Dirty: twice, Redo: 1}, 8-first, 0)
			s.wantPage(t, behind(3, at, upTo(first, 8)...))
		}
	}
}

// 20.1: pages that are in Dirty are repeated, each from its own place on; those that are not are not looked at.
func TestPages(t *testing.T) {
	const pages, many = 4, 20
	for mask := range 1 << pages {
		for shift := range 6 {
			s := bare(t, 4)
			var at []api.LSN
			for i := range many {
				at = append(at, s.put(t, both(api.Page(i%pages+1), insert(fmt.Sprint(i)))[i%3]))
			}
			var f api.Found
			f.Redo = 1
			told := make([][]int, pages)
			did := 0
			// The greatest number first: the order of Dirty is all one.
			for n := pages - 1; n >= 0; n-- {
				if mask>>n&1 == 0 {
					continue
				}
				since := n*shift*3 + shift
				if since >= many {
					since = many - 1
				}
				f.Dirty = append(f.Dirty, api.Dirty{Page: api.Page(n + 1), LSN: at[since]})
				for i := n; i < many; i += pages {
					if i >= since {
						told[n] = append(told[n], i)
						did++
					}
				}
			}
			s.wantRun(t, fmt.Sprintf("%+v", f), f, did, 0)
			for n := range told {
				if s.p.Has(api.Page(n+1)) != (len(told[n]) > 0) {
					t.Errorf("%+v: page %d is in a frame: %t", f, n+1, s.p.Has(api.Page(n+1)))
				}
				s.wantPage(t, behind(api.Page(n+1), at, told[n]...))
			}
		}
	}
}

// 20.1: records of all other kinds are passed over, wherever they stand, whatever they say, also where a page 0 is told as dirty.
func TestOtherKinds(t *testing.T) {
	s := bare(t, 4)
	s.puts(t, others()...)
	var at []api.LSN
	for i, r := range others() {
		at = append(at, s.put(t, both(3, insert(fmt.Sprint(i)))[i%4]))
		s.put(t, r)
	}
	s.puts(t, others()...)
	f := api.Found{Dirty: dirty(0, 0, 3, 5, api.MaxPages, 1<<32-1), Redo: 1}
	s.wantRun(t, "others in between", f, 6, 0)
	s.wantPage(t, behind(3, at, upTo(0, 6)...))
	s.wantRun(t, "others in between", f, 0, 6)
	s = bare(t, 4)
	s.puts(t, others()...)
	was := s.look()
	s.wantRun(t, "others alone", f, 0, 0)
	if s.look() != was {
		t.Error("something was changed")
	}
}

// 20.1: how many were done, and how many were there: where a page has all, none, some; of some pages beside one another.
func TestCounts(t *testing.T) {
	const many = 6
	for one := range many + 1 {
		for other := range many + 1 {
			s := bare(t, 4)
			var at, otherAt []api.LSN
			for i := range many {
				at = append(at, s.put(t, update(3, insert(fmt.Sprint(i)))))
				otherAt = append(otherAt, s.put(t, clr(7, insert(fmt.Sprint(i)))))
			}
			s.lay(t, behind(3, at, upTo(0, one)...))
			s.lay(t, behind(7, otherAt, upTo(0, other)...))
			f := api.Found{Dirty: dirty(1, 3, 7), Redo: 1}
			s.wantRun(t, fmt.Sprint(one, " and ", other, " were there"), f, 2*many-one-other, one+other)
			s.wantPage(t, behind(3, at, upTo(0, many)...))
			s.wantPage(t, behind(7, otherAt, upTo(0, many)...))
			var want []api.Dirty
			if one < many {
				want = append(want, api.Dirty{Page: 3, LSN: at[one]})
			}
			if other < many {
				want = append(want, api.Dirty{Page: 7, LSN: otherAt[other]})
			}
			s.wantDirty(t, want...)
			s.wantRun(t, "again", f, 0, 2*many)
		}
	}
}

// 20.1: a page whose LSN stands between records, or above all, lacks those behind it alone.
func TestBetween(t *testing.T) {
	s, at := rows(t, 3, 5)
	for i, x := range at {
		for off, stood := range map[api.LSN]int{x - 1: i, x: i + 1, x + 1: i + 1} {
			s := over(t, s.d.Clone(), 4)
			s.puts(t, both(3, insert("0"))[0], both(3, insert("1"))[1], both(3, insert("2"))[2], both(3, insert("3"))[3], both(3, insert("4"))[0])
			s.lay(t, sheet(3, off, "was"))
			s.wantRun(t, fmt.Sprint("the LSN ", off), api.Found{Dirty: dirty(1, 3), Redo: 1}, 5-stood, stood)
			want := sheet(3, off, "was")
			for k := stood; k < 5; k++ {
				want.LSN, want.Slots = at[k], slices.Insert(want.Slots, 0, fmt.Sprint(k))
			}
			s.wantPage(t, want)
		}
	}
	s.lay(t, sheet(3, far, "was"))
	s.wantRun(t, "above all", api.Found{Dirty: dirty(1, 3), Redo: 1}, 0, 5)
	s.wantPage(t, sheet(3, far, "was"))
	s.wantDirty(t)
}

// 20.1: changes of each kind, in the order of the log: each finds what the one ahead has left.
func TestEachChange(t *testing.T) {
	s := bare(t, 4)
	ops := []api.Op{
		{Kind: api.OpFormat, At: 2, S: "head"}, {Kind: api.OpInsert, S: "abcd"}, {Kind: api.OpInsert, At: 1, S: "c"}, {Kind: api.OpSet, At: 1, S: "long", Old: "c"},
		{Kind: api.OpPut, At: 1, S: "xy", Old: "bc"}, {Kind: api.OpHead, S: "tail", Old: "head"}, {Kind: api.OpRemove, Old: "axyd"}, {Kind: api.OpRemove, Old: "long"},
		{Kind: api.OpTurn, S: "\x07other", Old: "\x02tail"}, {Kind: api.OpInsert, S: "e"},
	}
	var last api.LSN
	for i, op := range ops {
		last = s.put(t, both(5, op)[i%4])
	}
	s.wantRun(t, "each change", api.Found{Dirty: dirty(1, 5), Redo: 1}, len(ops), 0)
	s.wantPage(t, api.Sheet{Number: 5, LSN: last, Kind: 7, Head: "other", Slots: []string{"e"}})
	s.wantDirty(t, api.Dirty{Page: 5, LSN: 1})
}

// 20.1: what is in frames is what counts, not what the disk has.
func TestInFrames(t *testing.T) {
	s, at := rows(t, 3, 6)
	s.lay(t, behind(3, at, 0, 1, 2, 3))
	wantErr(t, "Put", s.p.Put(behind(3, at, 0, 1)), api.OK)
	s.wantRun(t, "in a frame", api.Found{Dirty: dirty(1, 3), Redo: 1}, 4, 2)
	s.wantPage(t, behind(3, at, upTo(0, 6)...))
	// Of a page that is in a frame nothing is read: the power may be off, and the disk may have what it will.
	s, at = rows(t, 3, 6)
	wantErr(t, "Put", s.p.Put(behind(3, at, 0, 1)), api.OK)
	s.layBytes(t, 3, strings.Repeat("x", api.PageBytes))
	s.d.Crash(api.Fall{})
	s.wantRun(t, "in a frame", api.Found{Dirty: dirty(1, 3), Redo: 1}, 4, 2)
	s.wantPage(t, behind(3, at, upTo(0, 6)...))
}

// 20.1: pages are fetched and let go as One does it, one record behind the other: those that leave are the same, by the same picks, with as many calls of the disk.
func TestAsOneByOne(t *testing.T) {
	for seed := range 20 {
		picks := []int{seed, 3, 1, -4, seed * seed, 5, 9, 2, 6}
		var stores [2]store
		var at []api.LSN
		var l []api.Rec
		for i := range stores {
			at, l = nil, nil
			stores[i] = bare(t, 4+seed%3)
			for k := range 60 {
				l = append(l, both(api.Page((k*seed+k/7)%11+1), insert(fmt.Sprint(k)))[k%4])
			}
			at = stores[i].puts(t, l...)
			stores[i].p.Picks(picks)
		}
		s := stores[0]
		s.wantRun(t, "all", api.Found{Dirty: dirty(1, upToPage(11)...), Redo: 1}, 60, 0)
		for i, r := range l {
			if did, e := redo.One(stores[1].p, at[i], r); !did || e != api.OK {
				t.Errorf("One: %t, %d", did, e)
			}
		}
		if s.look() != stores[1].look() {
			t.Errorf("seed %d:\n%s\n%s", seed, s.look(), stores[1].look())
		}
	}
}

// upToPage is the pages from 1 to one.
func upToPage(n api.Page) []api.Page {
	var l []api.Page
	for i := range n {
		l = append(l, i+1)
	}
	return l
}

// 20.1: each page that a disk may have is dirty, more than any pool holds; the last one's change can be done, or can't.
func TestAllPages(t *testing.T) {
	for _, frames := range []int{4, api.MaxFrames} {
		d, e := disk.New(api.MaxPages)
		wantErr(t, "disk.New", e, api.OK)
		s := over(t, d, frames)
		var at []api.LSN
		for n := range api.Page(api.MaxPages) {
			at = append(at, s.put(t, update(n+1, insert("a"))))
		}
		f := api.Found{Dirty: dirty(1, upToPage(api.MaxPages)...), Redo: 1}
		bad := over(t, d.Clone(), frames)
		for n := range api.Page(api.MaxPages) {
			bad.put(t, update(n+1, insert("a")))
		}
		bad.put(t, update(1, api.Op{Kind: api.OpRemove, Old: "b"}))
		bad.wantRefused(t, "the last one can't", f, api.ErrRedo)
		s.wantRun(t, "all pages", f, api.MaxPages, 0)
		if fetched, written := s.p.Counts(); fetched != api.MaxPages || written != api.MaxPages-frames {
			t.Error("Counts:", fetched, written)
		}
		for n := range api.Page(api.MaxPages) {
			s.wantPage(t, api.Sheet{Number: n + 1, LSN: at[n], Slots: []string{"a"}})
		}
		s.wantRun(t, "again", f, 0, api.MaxPages)
	}
}

// R1: a pool that nobody made has no log, and nothing to be repeated.
func TestPoolOfNobody(t *testing.T) {
	did, stood, e := redo.Run(&pool.Pool{}, api.Found{Dirty: dirty(1, 1), Redo: 1})
	if did != 0 || stood != 0 || e != api.OK {
		t.Error(did, stood, e)
	}
}

// R5: a greatest log of one page's changes; how many are done hangs on what was found alone.
func TestLongLog(t *testing.T) {
	d, e := disk.New(room)
	wantErr(t, "disk.New", e, api.OK)
	s := over(t, d, 4)
	old := strings.Repeat("x", 400)
	at := s.puts(t, update(2, insert(old)))
	for i := 0; s.l.Room() > 2000; i++ {
		is := strings.Repeat(fmt.Sprint(i%10), 400)
		at = append(at, s.put(t, update(2, api.Op{Kind: api.OpSet, S: is, Old: old})))
		old = is
	}
	many := len(at)
	s.wantRun(t, "a long log", api.Found{Dirty: dirty(1, 2), Redo: 1}, many, 0)
	s.wantPage(t, api.Sheet{Number: 2, LSN: at[many-1], Slots: []string{old}})
	s.wantRun(t, "a long log", api.Found{Dirty: dirty(at[many/2], 2), Redo: 1}, 0, many-many/2)
	if many < 4000 {
		t.Error("records:", many)
	}
}
