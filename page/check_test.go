package page_test

import (
	"math"
	"testing"

	"girder/api"
	"girder/page"
)

// all are the kinds of changes, and some that are none.
func all() []int {
	return []int{math.MinInt, -1, 0, 1, 2, 3, 4, 5, 6, 7, 8, 255, 256, 257, math.MaxInt}
}

// allowed is what 3.2 says of a change, by its table.
func allowed(op api.Op) bool {
	type span struct{ low, high int }
	type rule struct{ at, s, old span }
	slots, text, none, head, turn := span{0, 63}, span{0, 512}, span{0, 0}, span{0, 32}, span{1, 33}
	rules := map[int]rule{
		1: {span{0, 255}, head, none},
		2: {slots, text, none},
		3: {slots, none, text},
		4: {slots, text, text},
		5: {none, head, head},
		6: {span{0, 511}, span{1, 512}, span{len(op.S), len(op.S)}},
		7: {none, turn, turn},
	}
	in := func(n int, s span) bool { return n >= s.low && n <= s.high }
	r, ok := rules[op.Kind]
	return ok && in(op.At, r.at) && in(len(op.S), r.s) && in(len(op.Old), r.old)
}

// 3.2: each kind, with each At and each length at the edges.
func TestCheckAll(t *testing.T) {
	ats := []int{math.MinInt, -1, 0, 1, 62, 63, 64, 254, 255, 256, 510, 511, 512, math.MaxInt}
	longs := []int{0, 1, 2, 31, 32, 33, 34, 511, 512, 513, 65536}
	ok := 0
	for _, kind := range all() {
		for _, at := range ats {
			for _, s := range longs {
				for _, old := range longs {
					op := api.Op{Kind: kind, At: at, S: pattern(s), Old: pattern(old)}
					want := api.ErrOp
					if allowed(op) {
						want = api.OK
						ok++
					}
					if e := page.Check(op); e != want {
						t.Fatalf("kind %d, at %d, S of %d, Old of %d bytes: %d, not %d", kind, at, s, old, e, want)
					}
				}
			}
		}
	}
	if ok < 100 {
		t.Error("too few that may be:", ok)
	}
}

// 3.2: the edges one by one, as the chapter tells them.
func TestCheckEdges(t *testing.T) {
	for _, c := range []struct {
		kind, at, s, old int
		err              api.Errno
	}{
		{api.OpFormat, 0, 0, 0, api.OK},
		{api.OpFormat, 255, 32, 0, api.OK},
		{api.OpFormat, 256, 0, 0, api.ErrOp},
		{api.OpFormat, -1, 0, 0, api.ErrOp},
		{api.OpFormat, 0, 33, 0, api.ErrOp},
		{api.OpFormat, 0, 0, 1, api.ErrOp},
		{api.OpInsert, 0, 0, 0, api.OK},
		{api.OpInsert, 63, 512, 0, api.OK},
		{api.OpInsert, 64, 1, 0, api.ErrOp},
		{api.OpInsert, -1, 1, 0, api.ErrOp},
		{api.OpInsert, 0, 513, 0, api.ErrOp},
		{api.OpInsert, 0, 1, 1, api.ErrOp},
		{api.OpRemove, 0, 0, 0, api.OK},
		{api.OpRemove, 63, 0, 512, api.OK},
		{api.OpRemove, 64, 0, 1, api.ErrOp},
		{api.OpRemove, -1, 0, 1, api.ErrOp},
		{api.OpRemove, 0, 0, 513, api.ErrOp},
		{api.OpRemove, 0, 1, 1, api.ErrOp},
		{api.OpSet, 0, 0, 0, api.OK},
		{api.OpSet, 63, 512, 512, api.OK},
		{api.OpSet, 64, 1, 1, api.ErrOp},
		{api.OpSet, -1, 1, 1, api.ErrOp},
		{api.OpSet, 0, 513, 1, api.ErrOp},
		{api.OpSet, 0, 1, 513, api.ErrOp},
		{api.OpHead, 0, 0, 0, api.OK},
		{api.OpHead, 0, 32, 32, api.OK},
		{api.OpHead, 0, 33, 0, api.ErrOp},
		{api.OpHead, 0, 0, 33, api.ErrOp},
		{api.OpHead, 1, 0, 0, api.ErrOp},
		{api.OpHead, -1, 0, 0, api.ErrOp},
		{api.OpPut, 0, 1, 1, api.OK},
		{api.OpPut, 511, 512, 512, api.OK},
		{api.OpPut, 512, 1, 1, api.ErrOp},
		{api.OpPut, -1, 1, 1, api.ErrOp},
		{api.OpPut, 0, 0, 0, api.ErrOp},
		{api.OpPut, 0, 1, 2, api.ErrOp},
		{api.OpPut, 0, 2, 1, api.ErrOp},
		{api.OpPut, 0, 1, 0, api.ErrOp},
		{api.OpPut, 0, 513, 513, api.ErrOp},
		{api.OpTurn, 0, 1, 1, api.OK},
		{api.OpTurn, 0, 33, 33, api.OK},
		{api.OpTurn, 0, 34, 1, api.ErrOp},
		{api.OpTurn, 0, 1, 34, api.ErrOp},
		{api.OpTurn, 0, 0, 1, api.ErrOp},
		{api.OpTurn, 0, 1, 0, api.ErrOp},
		{api.OpTurn, 1, 1, 1, api.ErrOp},
		{api.OpTurn, -1, 1, 1, api.ErrOp},
		{0, 0, 0, 0, api.ErrOp},
		{8, 0, 0, 0, api.ErrOp},
		{-1, 0, 0, 0, api.ErrOp},
	} {
		op := api.Op{Kind: c.kind, At: c.at, S: pattern(c.s), Old: pattern(c.old)}
		if e := page.Check(op); e != c.err {
			t.Errorf("%+v: %d", c, e)
		}
	}
}
