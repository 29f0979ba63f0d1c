package analyze_test

import (
	"math/rand"
	"testing"

	"girder/api"
)

// 19.1: a RecCheck's transactions that were not known are under way as it says, in each state; those that were known stand as they are known.
func TestTxsOfCheck(t *testing.T) {
	said := []api.TxState{
		{Tx: 7, State: api.TxAborting, Last: 500, Next: 400}, {Tx: 1, State: api.TxCommitted, Last: 3, Next: 2},
		{Tx: 4, State: api.TxActive, Last: 9, Next: 8}, {Tx: 2, State: api.TxActive},
	}
	s, _ := with(t, plain(api.RecBegin, 0), check(7, said))
	s.wantFound(t, "not known", sorted(api.Found{Txs: said, Redo: s.l.End(), Most: 7, Records: 2}))

	s, at := with(t, update(4, 3), plain(api.RecCommit, 7), clr(2, 3, 77), top(1, 6), check(7, said))
	known := []api.TxState{
		{Tx: 1, State: api.TxActive, Last: at[3], Next: 6}, {Tx: 2, State: api.TxActive, Last: at[2], Next: 77},
		{Tx: 4, State: api.TxActive, Last: 1, Next: 1}, {Tx: 7, State: api.TxCommitted, Last: at[1]},
	}
	want := api.Found{Txs: known, Dirty: []api.Dirty{{Page: 3, LSN: 1}}, Redo: 1, Most: 7, Records: 5}
	s.wantFound(t, "known", want)

	// A second one says nothing new of them; one that was told twice stands as it was told first.
	other := []api.TxState{active(1, 90, 91), active(2, 92, 93), active(8, 94, 95), inState(api.TxAborting, active(8, 96, 97))}
	s.put(t, check(8, other))
	want.Txs, want.Most, want.Records = append(known, other[2]), 8, 6
	s.wantFound(t, "known, and one more", want)
}

// 19.1: those under way that a RecCheck tells of go on behind it: each record makes of them what it makes of others.
func TestOnBehindCheck(t *testing.T) {
	said := []api.TxState{{Tx: 5, State: api.TxActive, Last: 300, Next: 200}}
	for _, c := range []struct {
		r    api.Rec
		want api.TxState // but for Last
	}{
		{clr(5, 9, 150), active(5, 0, 150)}, {top(5, 100), active(5, 0, 100)},
		{plain(api.RecCommit, 5), inState(api.TxCommitted, active(5, 0, 200))},
		{plain(api.RecAbort, 5), inState(api.TxAborting, active(5, 0, 200))},
	} {
		s, at := with(t, plain(api.RecBegin, 0), check(5, said), c.r)
		want := api.Found{Txs: []api.TxState{c.want}, Redo: s.l.End(), Most: 5, Records: 3}
		want.Txs[0].Last = at[2]
		if c.r.Page != 0 {
			want.Dirty, want.Redo = []api.Dirty{{Page: 9, LSN: at[2]}}, at[2]
		}
		s.wantFound(t, "on behind a RecCheck", want)
		s.put(t, plain(api.RecEnd, 5))
		want.Txs, want.Records = nil, 4
		if c.r.Page == 0 {
			want.Redo = s.l.End()
		}
		s.wantFound(t, "its end", want)
	}
	// One that goes back, and one that committed, stay so behind records of other kinds.
	for _, state := range []int{api.TxAborting, api.TxCommitted} {
		s, at := with(t, check(5, []api.TxState{inState(state, active(5, 300, 200))}), update(5, 9))
		s.wantFound(t, "its state", api.Found{
			Txs:   []api.TxState{{Tx: 5, State: state, Last: at[1], Next: at[1]}},
			Dirty: []api.Dirty{{Page: 9, LSN: at[1]}}, Redo: at[1], Most: 5, Records: 2,
		})
	}
}

// 19.1: a transaction that ended between the RecBegin and the RecCheck is under way again as that says, by the chapter's words; one that ends behind it is not.
func TestEndedWithin(t *testing.T) {
	said := []api.TxState{active(3, 11, 12)}
	s, _ := with(t, plain(api.RecBegin, 0), plain(api.RecCommit, 3), plain(api.RecEnd, 3), check(3, said))
	s.wantFound(t, "ended within", api.Found{Txs: said, Redo: s.l.End(), Most: 3, Records: 4})
	s.put(t, plain(api.RecEnd, 3))
	s.wantFound(t, "ended again", api.Found{Redo: s.l.End(), Most: 3, Records: 5})
	// A RecCheck that does not tell of somebody does not end it, nor does a RecBegin.
	s, _ = with(t, top(3, 1), plain(api.RecBegin, 3), check(9, nil))
	s.wantFound(t, "not told of", api.Found{Txs: []api.TxState{active(3, 1, 1)}, Redo: s.l.End(), Most: 9, Records: 3})
}

// 19.1: a RecCheck's pages are dirty from where it says, if that is earlier, or they were not.
func TestDirtyOfCheck(t *testing.T) {
	s, at := with(t,
		top(1, 0), update(1, 5), update(1, 6), update(1, 7), update(1, 8),
		check(1, nil, api.Dirty{Page: 9, LSN: 1000}, api.Dirty{Page: 7, LSN: 0}, api.Dirty{Page: 5, LSN: 3}, api.Dirty{Page: 6, LSN: 1000}, api.Dirty{Page: 1, LSN: 2}),
	)
	want := api.Found{
		Txs: []api.TxState{active(1, at[4], at[4])},
		Dirty: []api.Dirty{
			{Page: 1, LSN: 2}, {Page: 5, LSN: 3}, {Page: 6, LSN: at[2]}, {Page: 7, LSN: 0}, {Page: 8, LSN: at[4]}, {Page: 9, LSN: 1000},
		},
		Most: 1, Records: 6,
	}
	s.wantFound(t, "pages of a RecCheck", want)
	// What is said later counts only if it is earlier; what is changed behind it is dirty as it was.
	s.put(t, check(1, nil, api.Dirty{Page: 9, LSN: 999}, api.Dirty{Page: 1, LSN: 3}, api.Dirty{Page: 9, LSN: 998}, api.Dirty{Page: 9, LSN: 1001}))
	last := s.put(t, update(1, 9))
	want.Dirty[5].LSN, want.Txs[0], want.Records = 998, active(1, last, last), 8
	s.wantFound(t, "pages of two", want)
}

// 19.1: a change of a page that is dirty by a RecCheck leaves it as it is told, earlier or later than the change.
func TestChangeBehindCheck(t *testing.T) {
	for _, since := range []api.LSN{0, 1, 5000, far} {
		for _, change := range []api.Rec{update(1, 4), clr(1, 4, 0)} {
			s, at := with(t, check(0, nil, api.Dirty{Page: 4, LSN: since}), change)
			x := active(1, at[1], at[1])
			if change.Kind == api.RecCLR {
				x.Next = 0
			}
			s.wantFound(t, "a change behind it", api.Found{Txs: []api.TxState{x}, Dirty: []api.Dirty{{Page: 4, LSN: since}}, Redo: since, Most: 1, Records: 2})
		}
	}
}

// 19.1: Redo is the least place at which a page is dirty, be it ahead of the checkpoint, in the midst, or behind the log's end.
func TestRedoOfCheck(t *testing.T) {
	for _, since := range []api.LSN{0, 1, 17, 300, far} {
		s, _ := with(t, check(0, nil, api.Dirty{Page: 2, LSN: far}, api.Dirty{Page: 8, LSN: since}))
		s.wantFound(t, "the least", api.Found{Dirty: []api.Dirty{{Page: 2, LSN: far}, {Page: 8, LSN: since}}, Redo: since, Records: 1})
	}
	// A page that was dirty ahead of the checkpoint, with a master at that.
	s, at := with(t, update(1, 3), update(1, 4), plain(api.RecBegin, 0), check(1, []api.TxState{active(1, 40, 40)}, api.Dirty{Page: 4, LSN: 40}), update(1, 3))
	s.master(t, at[2])
	s.wantFound(t, "ahead of the master", api.Found{
		Txs: []api.TxState{active(1, at[4], at[4])}, Dirty: []api.Dirty{{Page: 3, LSN: at[4]}, {Page: 4, LSN: 40}}, Redo: 40, Most: 1, Records: 3,
	})
}

// 19.1: as many transactions and pages as a RecCheck may have, in any order.
func TestFullCheck(t *testing.T) {
	r := rand.New(rand.NewSource(1))
	want := api.Found{Redo: 1000, Most: 64000, Records: 1}
	for i := range api.MaxTx {
		want.Txs = append(want.Txs, api.TxState{Tx: (i + 1) * 1000, State: i%3 + 1, Last: api.LSN(i), Next: api.LSN(2 * i)})
	}
	for i := range api.MaxFrames {
		want.Dirty = append(want.Dirty, api.Dirty{Page: api.Page(i * 3), LSN: api.LSN(2000 - i)})
	}
	want.Dirty[77].LSN = 1000
	full := check(5, append([]api.TxState(nil), want.Txs...), append([]api.Dirty(nil), want.Dirty...)...)
	for range 5 {
		r.Shuffle(len(full.Txs), func(i, j int) { full.Txs[i], full.Txs[j] = full.Txs[j], full.Txs[i] })
		r.Shuffle(len(full.Dirty), func(i, j int) { full.Dirty[i], full.Dirty[j] = full.Dirty[j], full.Dirty[i] })
		s, _ := with(t, full)
		s.wantFound(t, "a full one", want)
	}
}

// 19.1: the log is gone through from the master on, wherever that is: what stands ahead of it is not heard of, and Records counts the others.
func TestMaster(t *testing.T) {
	l := []api.Rec{
		update(9, 3), plain(api.RecBegin, 8), check(30, []api.TxState{active(2, 1, 1)}, api.Dirty{Page: 2, LSN: 5}),
		update(2, 3), plain(api.RecBegin, 0), check(7, []api.TxState{active(6, 2, 2)}, api.Dirty{Page: 3, LSN: 3}),
		clr(6, 4, 1), plain(api.RecEnd, 2), plain(api.RecCommit, 6), plain(api.RecEnd, 6),
	}
	s, at := with(t, l...)
	s.wantFound(t, "without a master", s.modelled(t))
	if f, _ := s.run(t); f.Records != len(l) || f.Most != 30 || f.Redo != 1 {
		t.Errorf("without a master: %+v", f)
	}
	for i, place := range at {
		s.master(t, place)
		f, e := s.run(t)
		if f.Records != len(l)-i || e != api.OK {
			t.Errorf("the master is %d: %+v, %d", place, f, e)
		}
		// What is not heard of is the same as what is not there.
		bare, _ := with(t, l[i:]...)
		g, _ := bare.run(t)
		if f.Most != g.Most || len(f.Txs) != len(g.Txs) || len(f.Dirty) != len(g.Dirty) {
			t.Errorf("the master is %d: %+v, and by itself %+v", place, f, g)
		}
		s.wantFound(t, "with a master", s.modelled(t))
		again(t, s.d).wantFound(t, "opened again", f)
	}
	s.master(t, at[4])
	s.wantFound(t, "the second checkpoint", api.Found{
		Dirty: []api.Dirty{{Page: 3, LSN: 3}, {Page: 4, LSN: at[6]}}, Redo: 3, Most: 7, Records: 6,
	})
	// What is not flushed is heard of, too.
	on := s.put(t, update(40, 6))
	s.wantFound(t, "the tail", api.Found{
		Txs:   []api.TxState{active(40, on, on)},
		Dirty: []api.Dirty{{Page: 3, LSN: 3}, {Page: 4, LSN: at[6]}, {Page: 6, LSN: on}}, Redo: 3, Most: 40, Records: 7,
	})
}

// 19.1: a mark at which no record begins is no master.
func TestNoMaster(t *testing.T) {
	s, at := with(t, update(1, 3), update(2, 4))
	wantErr(t, "Flush", s.l.Flush(s.l.End()), api.OK)
	want, _ := s.run(t)
	for _, mark := range []uint64{0, 2, uint64(at[1]) - 1, uint64(at[1]) + 1, uint64(s.l.End()), uint64(s.l.End()) + 9, 1<<64 - 1} {
		wantErr(t, "SetMark", s.d.SetMark(mark), api.OK)
		s.wantFound(t, "no master", want)
	}
	if want.Records != 2 {
		t.Errorf("%+v", want)
	}
}
