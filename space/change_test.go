package space_test

import (
	"math"
	"math/bits"
	"testing"

	"girder/api"
	"girder/page"
	"girder/space"
)

// wantTurn holds a change against the bit of n in m: just that is turned over, and is turned back by the inverse.
func wantTurn(t *testing.T, m api.Sheet, op api.Op, n api.Page) {
	t.Helper()
	at := int(n-1) / 8
	if op.Kind != api.OpPut || op.At != at || len(op.S) != 1 || op.Old != m.Slots[0][at:at+1] {
		t.Fatalf("%d: %#v", n, op)
	}
	if op.S[0]^op.Old[0] != 1<<(int(n-1)%8) {
		t.Errorf("%d: %08b instead of %08b", n, op.S[0], op.Old[0])
	}
	wantErr(t, "Check", page.Check(op), api.OK)
	q := done(t, m, op)
	turned := 0
	for i := range slotLong {
		turned += bits.OnesCount8(q.Slots[0][i] ^ m.Slots[0][i])
	}
	if turned != 1 || space.Taken(q, n) == space.Taken(m, n) {
		t.Errorf("%d: %d bits are turned, and it is taken: %v", n, turned, space.Taken(q, n))
	}
	if q.Number != m.Number || q.Head != m.Head || !space.Is(q) {
		t.Errorf("%d: more is changed: %#v", n, q)
	}
	if back := done(t, q, page.Inverse(op)); !page.Same(back, m) {
		t.Errorf("%d: not taken back", n)
	}
}

// nothing tells whether a change is the zero value.
func nothing(op api.Op) bool { return op == api.Op{} }

// wantNoTake asks for a page where there is none to be had.
func wantNoTake(t *testing.T, m api.Sheet, room int, want api.Errno) {
	t.Helper()
	if n, op, e := space.Take(m, room); n != 0 || !nothing(op) || e != want {
		t.Errorf("Take of %d: %d, %#v, %d, not %d", room, n, op, e, want)
	}
}

// wantTake asks for a page, and for the change that takes it.
func wantTake(t *testing.T, m api.Sheet, room int, want api.Page) {
	t.Helper()
	n, op, e := space.Take(m, room)
	if n != want || e != api.OK {
		t.Fatalf("Take of %d: %d, %d, not %d", room, n, e, want)
	}
	wantTurn(t, m, op, n)
	if !space.Taken(done(t, m, op), n) {
		t.Errorf("Take of %d: %d is not taken", room, n)
	}
}

// 7.2: the least one that is free, of the pages 1 to room.
func TestTake(t *testing.T) {
	for _, c := range []struct {
		m    api.Sheet
		room int
		want api.Page
	}{
		{with(), 1, 1},
		{with(), 2, 1},
		{with(), api.MaxPages, 1},
		{with(1), 2, 2},
		{with(2), 1, 1},
		{with(2), 64, 1},
		{with(1, 3), 64, 2},
		{with(upTo(7)...), 8, 8},
		{with(upTo(8)...), 9, 9},
		{with(upTo(9)...), 10, 10},
		{with(upTo(64)...), 65, 65},
		{without(5), api.MaxPages, 5},
		{without(5, 6), 5, 5},
		{without(9, 8), 2000, 8},
		{without(64, 2000), 64, 64},
		{without(api.MaxPages, 1025), api.MaxPages, 1025},
		{without(api.MaxPages - 1), api.MaxPages - 1, api.MaxPages - 1},
		{without(api.MaxPages), api.MaxPages, api.MaxPages},
	} {
		wantTake(t, c.m, c.room, c.want)
	}
}

// 7.2: room below 1 is none, and room above MaxPages is MaxPages.
func TestTakeRoom(t *testing.T) {
	for _, room := range []int{0, -1, -8, -api.MaxPages, math.MinInt32, math.MinInt} {
		wantNoTake(t, with(), room, api.ErrSpace)
		wantNoTake(t, without(1), room, api.ErrSpace)
		wantNoTake(t, without(), room, api.ErrSpace)
	}
	for _, room := range []int{api.MaxPages, api.MaxPages + 1, api.MaxPages + 8, 2 * api.MaxPages, 1 << 32, 1<<32 + 1, math.MaxInt} {
		wantTake(t, with(), room, 1)
		wantTake(t, without(api.MaxPages), room, api.MaxPages)
		wantNoTake(t, without(), room, api.ErrSpace)
	}
}

// 7.2: each page that is the only free one is taken where it has room, and is not where the room ends ahead of it.
func TestTakeTheOnlyOne(t *testing.T) {
	for n := 1; n <= api.MaxPages; n++ {
		m := without(api.Page(n))
		wantTake(t, m, n, api.Page(n))
		wantTake(t, m, n+1, api.Page(n))
		wantTake(t, m, api.MaxPages, api.Page(n))
		wantNoTake(t, m, n-1, api.ErrSpace)
	}
}

// 7.2: taken pages one behind the other, until none is left; what lies beyond the room stays free.
func TestTakeAll(t *testing.T) {
	for _, room := range []int{1, 7, 8, 9, 100, api.MaxPages - 1, api.MaxPages} {
		m := fresh(t, 1)
		for n := 2; n <= room; n++ {
			got, op, e := space.Take(m, room)
			if got != api.Page(n) || e != api.OK {
				t.Fatalf("room %d: %d, %d, not %d", room, got, e, n)
			}
			m = done(t, m, op)
		}
		wantNoTake(t, m, room, api.ErrSpace)
		wantTaken(t, m, upTo(room))
	}
}

// 7.2: a page that is taken is given, one that is free is claimed: each of them, in maps in which all others are taken, or none.
func TestGiveAndClaim(t *testing.T) {
	for n := api.Page(1); n <= api.MaxPages; n++ {
		for _, m := range []api.Sheet{with(n), without()} {
			op, e := space.Give(m, n)
			wantErr(t, "Give", e, api.OK)
			wantTurn(t, m, op, n)
			if op, e := space.Claim(m, n); !nothing(op) || e != api.ErrNone {
				t.Errorf("Claim of %d, that is taken: %#v, %d", n, op, e)
			}
		}
		for _, m := range []api.Sheet{without(n), with()} {
			op, e := space.Claim(m, n)
			wantErr(t, "Claim", e, api.OK)
			wantTurn(t, m, op, n)
			if op, e := space.Give(m, n); !nothing(op) || e != api.ErrNone {
				t.Errorf("Give of %d, that is free: %#v, %d", n, op, e)
			}
		}
	}
}

// 7.2: what is no page is neither given nor claimed, whatever is taken.
func TestGiveAndClaimOfNoPage(t *testing.T) {
	for _, m := range []api.Sheet{with(), with(1), without(1), without()} {
		for _, n := range []api.Page{0, api.MaxPages + 1, api.MaxPages + 8, 2 * api.MaxPages, 1<<16 + 1, 1<<31 + 1, math.MaxUint32} {
			if op, e := space.Give(m, n); !nothing(op) || e != api.ErrNone {
				t.Errorf("Give(%d): %#v, %d", n, op, e)
			}
			if op, e := space.Claim(m, n); !nothing(op) || e != api.ErrNone {
				t.Errorf("Claim(%d): %#v, %d", n, op, e)
			}
		}
	}
}

// 7.2, R2: of what is no map that is told, ahead of all else.
func TestNoChangeOfNoMap(t *testing.T) {
	for what, m := range noMaps() {
		for _, room := range []int{math.MinInt, -1, 0, 1, 64, api.MaxPages, api.MaxPages + 1, math.MaxInt} {
			if n, op, e := space.Take(m, room); n != 0 || !nothing(op) || e != api.ErrMap {
				t.Errorf("%s: Take of %d: %d, %#v, %d", what, room, n, op, e)
			}
		}
		for _, n := range []api.Page{0, 1, 8, 9, api.MaxPages, api.MaxPages + 1, math.MaxUint32} {
			if op, e := space.Give(m, n); !nothing(op) || e != api.ErrMap {
				t.Errorf("%s: Give(%d): %#v, %d", what, n, op, e)
			}
			if op, e := space.Claim(m, n); !nothing(op) || e != api.ErrMap {
				t.Errorf("%s: Claim(%d): %#v, %d", what, n, op, e)
			}
		}
	}
}

// 7.2: a change says what stood there, so that it is not done where another page of its byte was taken since.
func TestChangeOfAnother(t *testing.T) {
	m := fresh(t, 2)
	_, take, _ := space.Take(m, 64)
	claim, _ := space.Claim(m, 8)
	give, _ := space.Give(m, 2)
	far, _ := space.Claim(m, 9)
	m = done(t, m, take)
	for _, op := range []api.Op{take, claim, give} {
		_, e := page.Apply(m, op, 9)
		wantErr(t, "Apply", e, api.ErrOld)
	}
	wantTaken(t, done(t, m, far), []api.Page{1, 2, 3, 9})
}

// 7.2: given and claimed one behind the other.
func TestOneBehindTheOther(t *testing.T) {
	m := fresh(t, 9)
	give := func(n api.Page) {
		t.Helper()
		op, e := space.Give(m, n)
		wantErr(t, "Give", e, api.OK)
		m = done(t, m, op)
	}
	give(2)
	give(8)
	give(9)
	wantTaken(t, m, []api.Page{1, 3, 4, 5, 6, 7})
	wantTake(t, m, 64, 2)
	op, e := space.Claim(m, 2)
	wantErr(t, "Claim", e, api.OK)
	m = done(t, m, op)
	wantTake(t, m, 64, 8)
	op, e = space.Claim(m, api.MaxPages)
	wantErr(t, "Claim", e, api.OK)
	m = done(t, m, op)
	wantTaken(t, m, []api.Page{1, 2, 3, 4, 5, 6, 7, api.MaxPages})
	give(1)
	_, op, e = space.Take(m, 1)
	wantErr(t, "Take", e, api.OK)
	m = done(t, m, op)
	wantNoTake(t, m, 7, api.ErrSpace)
	wantTake(t, m, 8, 8)
}
