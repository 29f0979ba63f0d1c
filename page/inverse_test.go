package page_test

import (
	"math"
	"math/rand"
	"slices"
	"testing"

	"girder/api"
	"girder/page"
)

// 3.4: the inverse of each kind, and of what is none.
func TestInverse(t *testing.T) {
	for _, c := range []struct{ op, want api.Op }{
		{api.Op{Kind: api.OpFormat, At: 2, S: "ab"}, api.Op{Kind: api.OpFormat}},
		{api.Op{Kind: api.OpFormat}, api.Op{Kind: api.OpFormat}},
		{api.Op{Kind: api.OpInsert, At: 3, S: "ab"}, api.Op{Kind: api.OpRemove, At: 3, Old: "ab"}},
		{api.Op{Kind: api.OpInsert}, api.Op{Kind: api.OpRemove}},
		{api.Op{Kind: api.OpRemove, At: 63, Old: "ab"}, api.Op{Kind: api.OpInsert, At: 63, S: "ab"}},
		{api.Op{Kind: api.OpSet, At: 3, S: "ab", Old: "c"}, api.Op{Kind: api.OpSet, At: 3, S: "c", Old: "ab"}},
		{api.Op{Kind: api.OpHead, S: "ab", Old: ""}, api.Op{Kind: api.OpHead, S: "", Old: "ab"}},
		{api.Op{Kind: api.OpPut, At: 511, S: "ab", Old: "cd"}, api.Op{Kind: api.OpPut, At: 511, S: "cd", Old: "ab"}},
		{api.Op{Kind: api.OpTurn, S: "\x01a", Old: "\x02b"}, api.Op{Kind: api.OpTurn, S: "\x02b", Old: "\x01a"}},

		{api.Op{}, api.Op{}},
		{api.Op{Kind: -1, At: 5, S: "a", Old: "b"}, api.Op{Kind: -1, At: 5, S: "a", Old: "b"}},
		{api.Op{Kind: 8, At: 5, S: "a", Old: "b"}, api.Op{Kind: 8, At: 5, S: "a", Old: "b"}},
		{api.Op{Kind: math.MaxInt, At: math.MinInt, S: "a"}, api.Op{Kind: math.MaxInt, At: math.MinInt, S: "a"}},

		{api.Op{Kind: api.OpFormat, At: 300, S: "a", Old: "b"}, api.Op{Kind: api.OpFormat}},
		{api.Op{Kind: api.OpInsert, At: -1, S: "a", Old: "b"}, api.Op{Kind: api.OpRemove, At: -1, Old: "a"}},
		{api.Op{Kind: api.OpRemove, At: 64, S: "a", Old: "b"}, api.Op{Kind: api.OpInsert, At: 64, S: "b"}},
		{api.Op{Kind: api.OpSet, At: 99, S: pattern(513), Old: "b"}, api.Op{Kind: api.OpSet, At: 99, S: "b", Old: pattern(513)}},
	} {
		if back := page.Inverse(c.op); back != c.want {
			t.Errorf("%+v: %+v, not %+v", c.op, back, c.want)
		}
	}
}

// wantBack does a change and its inverse, and again: the page is as it was, then as it was behind the change.
func wantBack(t *testing.T, p api.Sheet, op api.Op) {
	t.Helper()
	q, e := page.Apply(p, op, 20)
	if e != api.OK {
		t.Fatalf("%+v: %d", op, e)
	}
	back := page.Inverse(op)
	if e := page.Check(back); e != api.OK {
		t.Errorf("%+v: the inverse may not be: %d", op, e)
	}
	r, e := page.Apply(q, back, 21)
	if e != api.OK || !page.Same(p, r) || r.LSN != 21 {
		t.Errorf("%+v and back: %+v, %d, not %+v", op, r, e, p)
	}
	if twice := page.Inverse(back); twice != op {
		t.Errorf("%+v: the inverse of the inverse is %+v", op, twice)
	}
	if s, e := page.Apply(r, page.Inverse(back), 22); e != api.OK || !page.Same(q, s) {
		t.Errorf("%+v, back and again: %+v, %d, not %+v", op, s, e, q)
	}
}

// 3.5: each kind's inverse, at the edges of what fits.
func TestInverseTakesBack(t *testing.T) {
	full := pattern(482)
	wantBack(t, sheet(), api.Op{Kind: api.OpInsert, S: ""})
	wantBack(t, sheet(), api.Op{Kind: api.OpInsert, S: full})
	wantBack(t, sheet(many(63, "")...), api.Op{Kind: api.OpInsert, At: 63})
	wantBack(t, sheet(many(63, "")...), api.Op{Kind: api.OpInsert, At: 0, S: "a"})
	wantBack(t, sheet(full), api.Op{Kind: api.OpRemove, Old: full})
	wantBack(t, sheet(many(64, "abc")...), api.Op{Kind: api.OpRemove, At: 63, Old: "abc"})
	wantBack(t, sheet(many(64, "abc")...), api.Op{Kind: api.OpRemove, At: 0, Old: "abc"})
	wantBack(t, sheet("a", full[:479]), api.Op{Kind: api.OpSet, At: 0, S: "", Old: "a"})
	wantBack(t, sheet(full), api.Op{Kind: api.OpSet, S: "", Old: full})
	wantBack(t, sheet(""), api.Op{Kind: api.OpSet, S: full, Old: ""})
	wantBack(t, sheet(full), api.Op{Kind: api.OpHead, S: "", Old: "h"})
	wantBack(t, sheet("a"), api.Op{Kind: api.OpHead, S: pattern(32), Old: "h"})
	wantBack(t, sheet(full), api.Op{Kind: api.OpPut, S: full[1:] + "x", Old: full})
	wantBack(t, sheet(full), api.Op{Kind: api.OpPut, At: 481, S: "x", Old: full[481:]})
	wantBack(t, sheet(), api.Op{Kind: api.OpTurn, S: "\xff" + pattern(32), Old: "\x02h"})
	wantBack(t, page.Blank(3), api.Op{Kind: api.OpTurn, S: "\x01", Old: "\x00"})
}

// 3.4: the inverse of OpFormat leaves a page of the kind 0 without a head and slots, and does so again.
func TestInverseOfFormat(t *testing.T) {
	op := api.Op{Kind: api.OpFormat, At: 2, S: "ab"}
	p, _ := page.Apply(sheet("a"), op, 20)
	for range 2 {
		q, e := page.Apply(p, page.Inverse(op), 21)
		if !equal(q, api.Sheet{Number: 3, LSN: 21}) || e != api.OK || !page.Same(q, page.Blank(3)) {
			t.Error(q, e)
		}
		p = q
	}
}

// choose is a change that may be, often one that can be done; its texts are short, or about as long as what is left.
func choose(r *rand.Rand, p api.Sheet) api.Op {
	text := func() string {
		if r.Intn(12) == 0 {
			return pattern(min(max(page.Room(p)-3+r.Intn(6), 0), 512))
		}
		return pattern(r.Intn(30))
	}
	n := len(p.Slots)
	at := min(r.Intn(n+2), 63)
	old := "?"
	if at < n && r.Intn(20) > 0 {
		old = p.Slots[at]
	}
	switch kind := 2 + r.Intn(6); kind {
	case api.OpInsert:
		return api.Op{Kind: kind, At: at, S: text()}
	case api.OpRemove:
		return api.Op{Kind: kind, At: at, Old: old}
	case api.OpSet:
		return api.Op{Kind: kind, At: at, S: text(), Old: old}
	case api.OpPut:
		s := pattern(1 + r.Intn(9))
		if n == 0 || len(p.Slots[0]) < len(s) {
			return api.Op{Kind: kind, S: s, Old: s}
		}
		from := r.Intn(len(p.Slots[0]) - len(s) + 1)
		return api.Op{Kind: kind, At: from, S: s, Old: p.Slots[0][from : from+len(s)]}
	case api.OpTurn:
		return api.Op{Kind: kind, S: page.Kind(r.Intn(256), pattern(r.Intn(33))), Old: page.Kind(p.Kind, p.Head)}
	default:
		return api.Op{Kind: api.OpHead, S: pattern(r.Intn(33)), Old: p.Head}
	}
}

// done is a page behind a change by the chapter's words: the parts are put together anew.
func done(p api.Sheet, op api.Op, lsn api.LSN) (api.Sheet, api.Errno) {
	q := api.Sheet{Number: p.Number, LSN: lsn, Kind: p.Kind, Head: p.Head}
	n := len(p.Slots)
	slots := func(to, from int, between ...string) {
		q.Slots = slices.Concat(p.Slots[:to], between, p.Slots[from:])
	}
	switch op.Kind {
	case api.OpInsert:
		if op.At > n {
			return api.Sheet{}, api.ErrArg
		}
		if n == api.MaxSlots {
			return api.Sheet{}, api.ErrMany
		}
		slots(op.At, op.At, op.S)
	case api.OpRemove, api.OpSet:
		if op.At >= n {
			return api.Sheet{}, api.ErrArg
		}
		if p.Slots[op.At] != op.Old {
			return api.Sheet{}, api.ErrOld
		}
		if op.Kind == api.OpSet {
			slots(op.At, op.At+1, op.S)
		} else {
			slots(op.At, op.At+1)
		}
	case api.OpHead:
		if p.Head != op.Old {
			return api.Sheet{}, api.ErrOld
		}
		q.Head = op.S
		slots(n, n)
	case api.OpPut:
		if n == 0 || len(p.Slots[0]) < op.At+len(op.S) {
			return api.Sheet{}, api.ErrArg
		}
		b := []byte(p.Slots[0])
		copy(b[op.At:], op.S)
		slots(0, 1, string(b))
	case api.OpTurn:
		if n > 0 {
			return api.Sheet{}, api.ErrArg
		}
		q.Kind, q.Head = int(op.S[0]), op.S[1:]
	}
	if _, e := page.Encode(q); e != api.OK {
		return api.Sheet{}, e
	}
	return q, api.OK
}

// 3.3, 3.5: long walks of changes: each as the chapter says, taken back by its inverse; all of them, from the last one on, too; and each page goes through its bytes.
func TestWalk(t *testing.T) {
	told := map[api.Errno]int{}
	for seed := range int64(40) {
		r := rand.New(rand.NewSource(seed))
		p, e := page.Apply(page.Blank(3), api.Op{Kind: api.OpFormat, At: 2}, 1)
		if e != api.OK {
			t.Fatal(e)
		}
		first := p
		var ops []api.Op
		for i := range 400 {
			op, lsn := choose(r, p), api.LSN(i+2)
			q, e := page.Apply(p, op, lsn)
			want, f := done(p, op, lsn)
			told[e]++
			if !equal(q, want) || e != f {
				t.Fatalf("seed %d, %d: %+v: %+v, %d, not %+v, %d", seed, i, op, q, e, want, f)
			}
			if e != api.OK {
				continue
			}
			wantBack(t, p, op)
			s, _ := page.Encode(q)
			if p, e = page.Decode(s); !equal(p, q) || e != api.OK {
				t.Fatalf("seed %d, %d: through its bytes: %+v, %d, not %+v", seed, i, p, e, q)
			}
			ops = append(ops, op)
		}
		for _, op := range slices.Backward(ops) {
			if p, e = page.Apply(p, page.Inverse(op), 0); e != api.OK {
				t.Fatalf("seed %d: back by the inverse of %+v: %d", seed, op, e)
			}
		}
		if !page.Same(p, first) {
			t.Errorf("seed %d: all taken back: %+v", seed, p)
		}
	}
	for _, e := range []api.Errno{api.OK, api.ErrArg, api.ErrOld, api.ErrFull} {
		if told[e] < 50 {
			t.Errorf("the walks met %d only %d times", e, told[e])
		}
	}
}
