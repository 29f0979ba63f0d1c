package analyze_test

import (
	"fmt"
	"testing"

	"girder/analyze"
	"girder/api"
	"girder/wal"
)

const (
	most = 1<<31 - 1 // the greatest number of a transaction
	far  = api.LSN(1<<64 - 1)
)

// active is one under way that has written something.
func active(tx int, last, next api.LSN) api.TxState {
	return api.TxState{Tx: tx, State: api.TxActive, Last: last, Next: next}
}

func inState(state int, x api.TxState) api.TxState {
	x.State = state
	return x
}

// 19.1: a nil log.
func TestNil(t *testing.T) {
	for range 2 {
		if f, e := analyze.Run(nil); !same(f, api.Found{}) || e != api.ErrArg {
			t.Errorf("Run(nil): %+v, %d", f, e)
		}
	}
	var l *wal.Log
	if f, e := analyze.Run(l); !same(f, api.Found{}) || e != api.ErrArg {
		t.Errorf("Run of a nil log: %+v, %d", f, e)
	}
}

// 19.1: the chapter's example: an empty log; one of which all was torn is empty, too.
func TestEmpty(t *testing.T) {
	s := bare(t)
	s.wantFound(t, "an empty log", api.Found{Redo: 1})
	wantErr(t, "AppendLog", s.d.AppendLog("what is torn"), api.OK)
	wantErr(t, "SyncLog", s.d.SyncLog(), api.OK)
	again(t, s.d).wantFound(t, "a torn log", api.Found{Redo: 1})
	// A mark without a record there is no master.
	wantErr(t, "SetMark", s.d.SetMark(7), api.OK)
	again(t, s.d).wantFound(t, "a mark alone", api.Found{Redo: 1})
}

// 19.1: each kind of record by itself: what it makes of its transaction and of its page.
func TestEachKind(t *testing.T) {
	for _, c := range []struct {
		name string
		r    api.Rec
		txs  []api.TxState
		page api.Page // 0: none is dirty
	}{
		{"RecUpdate", update(3, 5), []api.TxState{active(3, 1, 1)}, 5},
		{"RecUpdate that is not undone", updates(3, 5)[0], []api.TxState{active(3, 1, 1)}, 5},
		{"RecUpdate by the key", updates(3, 5)[2], []api.TxState{active(3, 1, 1)}, 5},
		{"RecCLR", clr(3, 5, 77), []api.TxState{active(3, 1, 77)}, 5},
		{"RecCLR to nowhere", clr(3, 5, 0), []api.TxState{active(3, 1, 0)}, 5},
		{"RecTop", top(3, 77), []api.TxState{active(3, 1, 77)}, 0},
		{"RecTop to nowhere", top(3, 0), []api.TxState{active(3, 1, 0)}, 0},
		{"RecCommit", plain(api.RecCommit, 3), []api.TxState{inState(api.TxCommitted, active(3, 1, 0))}, 0},
		{"RecAbort", plain(api.RecAbort, 3), []api.TxState{inState(api.TxAborting, active(3, 1, 0))}, 0},
		{"RecEnd", plain(api.RecEnd, 3), nil, 0},
		{"RecBegin", plain(api.RecBegin, 3), nil, 0},
		{"RecCheck", check(3, nil), nil, 0},
	} {
		s, _ := with(t, c.r)
		want := api.Found{Txs: c.txs, Redo: s.l.End(), Most: 3, Records: 1}
		if c.page != 0 {
			want.Dirty, want.Redo = []api.Dirty{{Page: c.page, LSN: 1}}, 1
		}
		s.wantFound(t, c.name, want)
		// What stands ahead in the same transaction says nothing: a record's Prev is not looked at.
		c.r.Prev = 99
		s, _ = with(t, c.r)
		s.wantFound(t, c.name+" with a Prev", want)
	}
}

// 19.1: what a transaction writes in its life, record by record.
func TestLife(t *testing.T) {
	s := bare(t)
	step := func(r api.Rec, x api.TxState) {
		t.Helper()
		at := s.put(t, r)
		x.Last = at
		if r.Kind == api.RecUpdate {
			x.Next = at
		}
		f, e := s.run(t)
		wantErr(t, "Run", e, api.OK)
		if len(f.Txs) != 1 || f.Txs[0] != x {
			t.Errorf("behind %+v: %v, not %v", r, f.Txs, x)
		}
	}
	one := api.TxState{Tx: 4, State: api.TxActive}
	step(update(4, 6), one)
	step(update(4, 7), one)
	step(top(4, 1), api.TxState{Tx: 4, State: api.TxActive, Next: 1})
	step(clr(4, 6, 0), one)
	step(update(4, 6), one)
	one.State = api.TxAborting
	last, _ := s.l.Last()
	step(plain(api.RecAbort, 4), api.TxState{Tx: 4, State: api.TxAborting, Next: last})
	step(clr(4, 6, 0), one)
	s.put(t, plain(api.RecEnd, 4))
	second := s.records(t, 1)[1].at
	s.wantFound(t, "its end", api.Found{Dirty: []api.Dirty{{Page: 6, LSN: 1}, {Page: 7, LSN: second}}, Redo: 1, Most: 4, Records: 8})
}

// 19.1: one that committed stays under way until its RecEnd, and so does one that goes back.
func TestEnds(t *testing.T) {
	for _, c := range []struct{ kind, state int }{{api.RecCommit, api.TxCommitted}, {api.RecAbort, api.TxAborting}} {
		s, at := with(t, update(1, 2), plain(c.kind, 1))
		want := api.Found{
			Txs:   []api.TxState{{Tx: 1, State: c.state, Last: at[1], Next: 1}},
			Dirty: []api.Dirty{{Page: 2, LSN: 1}}, Redo: 1, Most: 1, Records: 2,
		}
		s.wantFound(t, "ahead of its end", want)
		s.put(t, plain(api.RecEnd, 1))
		want.Txs, want.Records = nil, 3
		s.wantFound(t, "behind its end", want)
		// A number that comes again is somebody new.
		on := s.put(t, top(1, 5))
		want.Txs, want.Records = []api.TxState{active(1, on, 5)}, 4
		s.wantFound(t, "somebody new", want)
	}
}

// 19.1: each order in which a transaction can write records of each kind, up to five: against the chapter's words.
func TestEachOrder(t *testing.T) {
	kinds := []api.Rec{update(2, 7), clr(2, 7, 5), top(2, 9), plain(api.RecCommit, 2), plain(api.RecAbort, 2), plain(api.RecEnd, 2)}
	var orders func(l []api.Rec)
	orders = func(l []api.Rec) {
		s, _ := with(t, l...)
		s.wantFound(t, fmt.Sprint("the order ", l), s.modelled(t))
		if t.Failed() {
			t.FailNow()
		}
		if len(l) == 5 {
			return
		}
		for _, r := range kinds {
			orders(append(l[:len(l):len(l)], r))
		}
	}
	orders(nil)
}

// 19.1: many beside one another, in any order of their numbers; Txs by their numbers.
func TestManyBeside(t *testing.T) {
	numbers := []int{9, 3, most, 1, 64, 0, 65, 12, 2}
	s := bare(t)
	first, last := map[int]api.LSN{}, map[int]api.LSN{}
	for i, n := range numbers {
		first[n] = s.put(t, update(n, api.Page(20-i)))
	}
	for _, n := range numbers {
		last[n] = s.put(t, top(n, api.LSN(n)))
	}
	s.put(t, plain(api.RecEnd, 12))
	s.put(t, plain(api.RecEnd, 9))
	committed := s.put(t, plain(api.RecCommit, 64))
	var want api.Found
	for _, n := range []int{0, 1, 2, 3, 64, 65, most} {
		want.Txs = append(want.Txs, active(n, last[n], api.LSN(n)))
	}
	want.Txs[4].State, want.Txs[4].Last = api.TxCommitted, committed
	for i := len(numbers) - 1; i >= 0; i-- {
		want.Dirty = append(want.Dirty, api.Dirty{Page: api.Page(20 - i), LSN: first[numbers[i]]})
	}
	want.Redo, want.Most, want.Records = 1, most, 21
	s.wantFound(t, "many", want)
}

// 19.1: more transactions and pages than there may be at one time are told all the same.
func TestMoreThanAtOneTime(t *testing.T) {
	const many = 3 * api.MaxFrames
	s := bare(t)
	want := api.Found{Redo: 1, Most: many, Records: many}
	for i := range many {
		// A step that meets each number once, out of order.
		n := i*7%many + 1
		at := s.put(t, update(n, api.Page(many-n+1)))
		want.Txs = append(want.Txs, active(n, at, at))
		want.Dirty = append(want.Dirty, api.Dirty{Page: api.Page(many - n + 1), LSN: at})
	}
	want = sorted(want)
	s.wantFound(t, "a great many", want)
}

// 19.1: a page is dirty from its first change on, whoever made it, by whichever record.
func TestFirstChange(t *testing.T) {
	for _, first := range []api.Rec{update(1, 4), clr(1, 4, 0), updates(1, 4)[0], updates(1, 4)[2]} {
		s, at := with(t, plain(api.RecCommit, 8), plain(api.RecEnd, 8), first, update(2, 4), clr(1, 4, 0), plain(api.RecEnd, 1), plain(api.RecEnd, 2), update(3, 4), plain(api.RecEnd, 3))
		s.wantFound(t, "some changes of a page", api.Found{Dirty: []api.Dirty{{Page: 4, LSN: at[2]}}, Redo: at[2], Most: 8, Records: 9})
	}
}

// 19.1: pages by their numbers, up to the greatest, whatever the order in which they were met; Redo is the least of their places.
func TestPagesByNumber(t *testing.T) {
	s, at := with(t, update(1, 1<<32-1), clr(1, 256, 0), update(1, 1), update(1, 255), update(1, 65536), update(1, 2))
	s.wantFound(t, "pages", api.Found{
		Txs: []api.TxState{active(1, at[5], at[5])},
		Dirty: []api.Dirty{
			{Page: 1, LSN: at[2]}, {Page: 2, LSN: at[5]}, {Page: 255, LSN: at[3]}, {Page: 256, LSN: at[1]}, {Page: 65536, LSN: at[4]}, {Page: 1<<32 - 1, LSN: at[0]},
		},
		Redo: 1, Most: 1, Records: 6,
	})
}

// 19.1: Redo where nothing is dirty is the log's end, of the tail, too.
func TestRedoOfNothing(t *testing.T) {
	s, _ := with(t, top(1, 0), plain(api.RecCommit, 1))
	wantErr(t, "Flush", s.l.Flush(1), api.OK)
	s.put(t, plain(api.RecEnd, 1))
	s.wantFound(t, "nothing dirty", api.Found{Redo: s.l.End(), Most: 1, Records: 3})
}

// 19.1: the greatest is noted in records of each kind, and in the Txs of a RecCheck; where it stands is all one.
func TestMost(t *testing.T) {
	for _, n := range []int{6, 1000, most} {
		greatest := []api.Rec{
			update(n, 1), clr(n, 1, 0), top(n, 0), plain(api.RecCommit, n), plain(api.RecAbort, n), plain(api.RecEnd, n),
			plain(api.RecBegin, n), check(n, nil), check(5, []api.TxState{active(n, 0, 0)}), check(0, []api.TxState{active(1, 0, 0), active(n, 0, 0), active(2, 0, 0)}),
		}
		for _, r := range greatest {
			for place := range 3 {
				l := []api.Rec{update(5, 2), plain(api.RecEnd, 5)}
				l = append(l[:place:place], append([]api.Rec{r, plain(api.RecEnd, n)}, l[place:]...)...)
				s, _ := with(t, l...)
				f, e := s.run(t)
				if f.Most != n || e != api.OK {
					t.Errorf("%+v at %d: %d, %d, not %d", r, place, f.Most, e, n)
				}
			}
		}
	}
	// One that ended was there none the less; 0 is no number that is greater than none.
	s, _ := with(t, plain(api.RecEnd, 7), plain(api.RecBegin, 0), check(0, nil))
	s.wantFound(t, "ended", api.Found{Redo: s.l.End(), Most: 7, Records: 3})
	s, _ = with(t, plain(api.RecBegin, 0), check(0, nil))
	s.wantFound(t, "none", api.Found{Redo: s.l.End(), Records: 2})
}
