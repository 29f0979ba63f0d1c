package redo_test

import (
	"fmt"
	"math/rand"
	"slices"
	"testing"

	"girder/api"
	"girder/page"
	"girder/rec"
)

// placed is a record and its place.
type placed struct {
	at api.LSN
	r  api.Rec
}

// records is all records of a log.
func (s store) records(t *testing.T) []placed {
	t.Helper()
	var all []placed
	for at := api.LSN(1); at != s.l.End(); {
		b, behind, here := s.l.Get(at)
		r, e := rec.Decode(b)
		if !here || e != api.OK {
			t.Fatalf("at %d: %t, %d", at, here, e)
		}
		all = append(all, placed{at, r})
		at = behind
	}
	return all
}

// repeated is what a page is behind records, by the chapter's words: how many were done, how many there already; false, if one can't be repeated.
func repeated(x api.Sheet, l []placed, f api.Found) (api.Sheet, int, int, bool) {
	did, stood := 0, 0
	for _, y := range l {
		lacks := slices.ContainsFunc(f.Dirty, func(d api.Dirty) bool { return d.Page == x.Number && d.LSN <= y.at })
		if y.r.Kind > api.RecCLR || y.r.Page != x.Number || y.at < f.Redo || !lacks {
			continue
		}
		if y.at <= x.LSN {
			stood++
			continue
		}
		next, e := page.Apply(x, y.r.Op, y.at)
		if e != api.OK {
			return x, 0, 0, false
		}
		x = next
		did++
	}
	return x, did, stood, true
}

// random is any record; most of its changes can be done.
func random(r *rand.Rand) api.Rec {
	n := api.Page(r.Intn(6) + 1)
	switch k := r.Intn(20); {
	case k < 6:
		return others()[k]
	case k == 6:
		return clr(n, api.Op{Kind: api.OpSet, S: "y", Old: "x"})
	case k == 7:
		return update(n, api.Op{Kind: api.OpFormat, At: r.Intn(256), S: "head"})
	default:
		return both(n, insert(string(rune('a'+r.Intn(26)))))[k%4]
	}
}

// foundSome is what somebody may have found, the pages in any order, some of them twice.
func foundSome(r *rand.Rand, all []placed, end api.LSN) api.Found {
	place := func() api.LSN {
		if len(all) == 0 || r.Intn(8) == 0 {
			return []api.LSN{0, 1, end, end + 9}[r.Intn(4)]
		}
		return all[r.Intn(len(all))].at
	}
	f := api.Found{Redo: place(), Most: r.Intn(9), Records: r.Intn(9)}
	for range r.Intn(8) {
		f.Dirty = append(f.Dirty, api.Dirty{Page: api.Page(r.Intn(7)), LSN: max(place(), 1) + api.LSN(r.Intn(3)) - 1})
	}
	return f
}

// 20.1: any logs, any pages, whatever was found, in pools of few frames and of many: against the chapter's words, page by page.
func TestRandom(t *testing.T) {
	met := map[string]int{}
	for seed := range int64(3000) {
		r := rand.New(rand.NewSource(seed))
		s := bare(t, 4+r.Intn(4))
		for range r.Intn(60) {
			s.put(t, random(r))
		}
		all := s.records(t)
		was := map[api.Page]api.Sheet{}
		for n := range api.Page(6) {
			was[n+1] = api.Sheet{Number: n + 1}
			if r.Intn(2) == 0 {
				was[n+1] = sheet(n+1, api.LSN(r.Intn(int(s.l.End())+5)), "x", "z")
				s.lay(t, was[n+1])
			}
			if r.Intn(5) == 0 {
				x := sheet(n+1, was[n+1].LSN+api.LSN(r.Intn(90)), "x", "in its frame")
				wantErr(t, "Put", s.p.Put(x), api.OK)
				was[n+1] = x
			}
		}
		f := foundSome(r, all, s.l.End())
		want, did, stood, ok := map[api.Page]api.Sheet{}, 0, 0, true
		for n, x := range was {
			to, some, others, done := repeated(x, all, f)
			want[n] = to
			did, stood, ok = did+some, stood+others, ok && done
		}
		if !ok {
			s.wantRefused(t, "a change that can't be repeated", f, api.ErrRedo)
			want = was
			met["refused"]++
		} else {
			s.wantRun(t, fmt.Sprintf("%+v", f), f, did, stood)
			s.wantRun(t, "again", f, 0, did+stood)
			met["did"] += did
			met["stood"] += stood
			met["passed over"] += len(all) - did - stood
		}
		for _, x := range want {
			s.wantPage(t, x)
		}
		if t.Failed() {
			t.Fatalf("seed %d: %+v", seed, f)
		}
	}
	for _, what := range []string{"refused", "did", "stood", "passed over"} {
		if met[what] < 200 {
			t.Error(what, "was met", met[what], "times")
		}
	}
}
