package analyze_test

import (
	"cmp"
	"math/rand"
	"slices"
	"testing"

	"girder/api"
)

// sorted is what was found by the numbers.
func sorted(f api.Found) api.Found {
	f.Txs, f.Dirty = slices.Clone(f.Txs), slices.Clone(f.Dirty)
	slices.SortFunc(f.Txs, func(a, b api.TxState) int { return cmp.Compare(a.Tx, b.Tx) })
	slices.SortFunc(f.Dirty, func(a, b api.Dirty) int { return cmp.Compare(a.Page, b.Page) })
	return f
}

// modelled is what the chapter's words make of a log, one transaction and one page behind the other.
func (s store) modelled(t *testing.T) api.Found {
	t.Helper()
	l := s.records(t, max(s.l.Master(), 1))
	f := api.Found{Redo: s.l.End(), Records: len(l)}
	txs, pages := map[int]bool{}, map[api.Page]bool{}
	for _, x := range l {
		f.Most = max(f.Most, x.r.Tx)
		txs[x.r.Tx], pages[x.r.Page] = true, true
		for _, y := range x.r.Txs {
			f.Most = max(f.Most, y.Tx)
			txs[y.Tx] = true
		}
		for _, y := range x.r.Dirty {
			pages[y.Page] = true
		}
	}
	for n := range txs {
		if x, under := life(l, n); under {
			f.Txs = append(f.Txs, x)
		}
	}
	for p := range pages {
		if since, dirty := spots(l, p); dirty {
			f.Dirty = append(f.Dirty, api.Dirty{Page: p, LSN: since})
		}
	}
	for i, x := range f.Dirty {
		if i == 0 || x.LSN < f.Redo {
			f.Redo = x.LSN
		}
	}
	return sorted(f)
}

// life is how a transaction stands behind records, from those behind its last end: the last of each kind counts.
func life(l []placed, n int) (api.TxState, bool) {
	own := func(x placed) bool {
		return x.r.Tx == n && x.r.Kind != api.RecBegin && x.r.Kind != api.RecCheck
	}
	begin := 0
	for i, x := range l {
		if own(x) && x.r.Kind == api.RecEnd {
			begin = i + 1
		}
	}
	l = l[begin:]
	first := slices.IndexFunc(l, func(x placed) bool {
		return own(x) || slices.ContainsFunc(x.r.Txs, func(y api.TxState) bool { return y.Tx == n })
	})
	if first < 0 {
		return api.TxState{}, false
	}
	s := api.TxState{Tx: n, State: api.TxActive}
	if !own(l[first]) {
		s = l[first].r.Txs[slices.IndexFunc(l[first].r.Txs, func(y api.TxState) bool { return y.Tx == n })]
	}
	last := func(kinds ...int) (placed, bool) {
		for _, x := range slices.Backward(l) {
			if own(x) && slices.Contains(kinds, x.r.Kind) {
				return x, true
			}
		}
		return placed{}, false
	}
	if x, is := last(1, 2, 3, 4, 5); is {
		s.Last = x.at
	}
	if x, is := last(api.RecUpdate, api.RecCLR, api.RecTop); is {
		s.Next = x.r.Next
		if x.r.Kind == api.RecUpdate {
			s.Next = x.at
		}
	}
	if x, is := last(api.RecCommit, api.RecAbort); is {
		s.State = map[int]int{api.RecCommit: api.TxCommitted, api.RecAbort: api.TxAborting}[x.r.Kind]
	}
	return s, true
}

// spots is from where on a page is dirty: from what tells it first, or from an earlier place that a RecCheck says.
func spots(l []placed, p api.Page) (api.LSN, bool) {
	var said []api.LSN
	for _, x := range l {
		if len(said) == 0 && (x.r.Kind == api.RecUpdate || x.r.Kind == api.RecCLR) && x.r.Page == p {
			said = append(said, x.at)
		}
		for _, y := range x.r.Dirty {
			if y.Page == p {
				said = append(said, y.LSN)
			}
		}
	}
	if len(said) == 0 {
		return 0, false
	}
	return slices.Min(said), true
}

// random is any record.
func random(r *rand.Rand) api.Rec {
	tx, p, next := r.Intn(6), api.Page(r.Intn(6)+1), api.LSN(r.Intn(400))
	switch kind := r.Intn(10); {
	case kind < 3:
		return updates(tx, p)[kind]
	case kind == 3:
		return clr(tx, p, next)
	case kind == 4:
		return top(tx, next)
	case kind < 8:
		return plain(kind-5+api.RecCommit, tx)
	case kind == 8:
		return plain(api.RecBegin, tx)
	}
	c := check(tx, nil)
	for range r.Intn(5) {
		c.Txs = append(c.Txs, api.TxState{Tx: r.Intn(7), State: r.Intn(3) + 1, Last: next, Next: api.LSN(r.Intn(400))})
	}
	for range r.Intn(5) {
		c.Dirty = append(c.Dirty, api.Dirty{Page: api.Page(r.Intn(8)), LSN: api.LSN(r.Intn(400))})
	}
	return c
}

// 19.1: any logs, with any masters, against the chapter's words.
func TestRandom(t *testing.T) {
	masters, under, clean := 0, 0, 0
	for seed := range int64(1500) {
		r := rand.New(rand.NewSource(seed))
		s := bare(t)
		var at []api.LSN
		for range r.Intn(40) {
			at = append(at, s.put(t, random(r)))
			if r.Intn(12) == 0 {
				s.master(t, at[r.Intn(len(at))])
				masters++
			}
		}
		f, e := s.run(t)
		want := s.modelled(t)
		if !same(f, want) || e != api.OK {
			t.Fatalf("seed %d: %+v, %d, not %+v", seed, f, e, want)
		}
		under += len(f.Txs)
		if len(f.Dirty) == 0 {
			clean++
		}
	}
	if masters < 500 || under < 1000 || clean < 20 {
		t.Error("masters, under way, without dirty pages:", masters, under, clean)
	}
}
