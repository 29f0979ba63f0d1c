package space_test

import (
	"math/rand"
	"slices"
	"testing"

	"girder/api"
	"girder/page"
	"girder/space"
)

// model is the pages that are taken, by the chapter's words.
type model struct{ taken map[api.Page]struct{} }

func (w *model) has(n api.Page) bool {
	_, ok := w.taken[n]
	return ok
}

// least is the least page of 1 to room that is free; 0: none.
func (w *model) least(room int) api.Page {
	for n := 1; n <= room && n <= api.MaxPages; n++ {
		if !w.has(api.Page(n)) {
			return api.Page(n)
		}
	}
	return 0
}

// turn turns a page over.
func (w *model) turn(n api.Page) {
	if w.has(n) {
		delete(w.taken, n)
	} else {
		w.taken[n] = struct{}{}
	}
}

// rising is all that are taken, rising.
func (w *model) rising() []api.Page {
	var l []api.Page
	for n := range w.taken {
		l = append(l, n)
	}
	slices.Sort(l)
	return l
}

// ask asks for a change of one of the three kinds, holds the answer against the model, and tells the change and what page it must turn (0: none).
func (w *model) ask(t *testing.T, m api.Sheet, kind int, n api.Page) (api.Op, api.Page) {
	t.Helper()
	var op api.Op
	var e, want api.Errno
	turns := n
	may := 1 <= n && n <= api.MaxPages
	switch kind {
	case 0:
		var got api.Page
		got, op, e = space.Take(m, int(n))
		if turns = w.least(int(n)); turns == 0 {
			want = api.ErrSpace
		}
		if got != turns {
			t.Fatalf("Take of %d: %d, not %d", n, got, turns)
		}
	case 1:
		op, e = space.Give(m, n)
		if !w.has(n) {
			turns, want = 0, api.ErrNone
		}
	default:
		op, e = space.Claim(m, n)
		if !may || w.has(n) {
			turns, want = 0, api.ErrNone
		}
	}
	if e != want || turns == 0 && !nothing(op) {
		t.Fatalf("kind %d of %d: %#v, %d, not %d", kind, n, op, e, want)
	}
	return op, turns
}

// 7.2, 7.3: long walks of pages taken, given, claimed and taken back, against the model.
func TestWalks(t *testing.T) {
	for seed := range int64(12) {
		r := rand.New(rand.NewSource(seed))
		most := []int{9, 40, 300, api.MaxPages}[seed%4] // numbers from 0 to a few more are asked for
		begun := 1 + r.Intn(most)
		m := fresh(t, begun)
		w := &model{taken: map[api.Page]struct{}{}}
		for _, n := range upTo(begun) {
			w.turn(n)
		}
		for range 1500 {
			op, n := w.ask(t, m, r.Intn(3), api.Page(r.Intn(most+3)))
			if n == 0 {
				continue
			}
			wantTurn(t, m, op, n)
			m = done(t, m, op)
			if r.Intn(8) == 0 {
				m = done(t, m, page.Inverse(op))
			} else {
				w.turn(n)
			}
			if !slices.Equal(space.All(m), w.rising()) || space.Count(m) != len(w.taken) {
				t.Fatalf("seed %d, behind %d: %v, not %v", seed, n, space.All(m), w.rising())
			}
		}
		wantTaken(t, m, w.rising())
	}
}
