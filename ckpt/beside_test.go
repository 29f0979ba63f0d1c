package ckpt_test

import (
	"fmt"
	"slices"
	"testing"

	"girder/api"
)

// standing is how transactions stand, but for places in the log, which hang on how many records there are.
func (s store) standing() string {
	var l []string
	for _, x := range s.All() {
		l = append(l, fmt.Sprint(x.Tx, x.State, x.Last > 0, x.Next > 0))
	}
	fetched, written := s.p.Counts()
	var dirty []api.Page
	for _, x := range s.p.Dirty() {
		dirty = append(dirty, x.Page)
	}
	return fmt.Sprint(l, s.Done(), s.Coming(), s.l.Kept(), s.p.Numbers(), dirty, fetched, written)
}

// 18.1: those under way go on, go back and commit behind checkpoints as if none had been taken: a walk with some and one without come to the same, in large pools and in small ones.
func TestGoOn(t *testing.T) {
	met := map[string]int{}
	for seed := range int64(12) {
		frames := []int{100, 6, 4}[seed%3]
		plain, with := newWalk(t, seed, frames), newWalk(t, seed, frames)
		every := 1 + int(seed)%5
		for i := range 250 {
			plain.step()
			with.step()
			if i%every == 0 {
				with.take(t)
			}
			if a, b := plain.standing(), with.standing(); a != b {
				t.Fatalf("seed %d, step %d: %s, and without checkpoints %s", seed, i, b, a)
			}
			if i%50 == 49 {
				plain.wantNow()
				with.wantNow()
			}
		}
		with.wantContent(t, "with checkpoints", plain.content(t))
		for what, n := range with.met {
			met[what] += n
		}
		if plain.fell || with.fell || t.Failed() {
			t.Fatal("seed", seed)
		}
	}
	for _, what := range []string{"Put", "Extend done", "Update", "Delete", "Insert", "Delete of an entry", "Clean", "Save", "To", "Commit", "Abort"} {
		if met[what] < 20 {
			t.Error(what, "was met", met[what], "times")
		}
	}
}

// 18.1: a single checkpoint, behind each step of a walk.
func TestGoOnBehindEach(t *testing.T) {
	const steps = 60
	plain := newWalk(t, 1000, 5)
	for range steps {
		plain.step()
	}
	want, standing := plain.content(t), plain.standing()
	for at := range steps {
		w := newWalk(t, 1000, 5)
		for i := range steps {
			w.step()
			if i == at {
				w.take(t)
			}
		}
		w.wantContent(t, fmt.Sprint("behind step ", at), want)
		if is := w.standing(); is != standing {
			t.Errorf("behind step %d: %s, not %s", at, is, standing)
		}
	}
}

// 18.1: each transaction, in each of its states, goes back, or ends, to where it would without the checkpoint; room is given back.
func TestEndBehind(t *testing.T) {
	s := busy(t, false)
	n := s.begin(t)
	s.lay(t, 8, "a")
	s.set(t, n, 8, "a", "b")
	s.take(t)
	s.commit(t, n)
	s.take(t)
	s.wantEnds(t)
	s.take(t)
	if l := s.Done(); !slices.Equal(l, []int{n, 1}) || len(s.All()) != 0 {
		t.Error("Done, All:", l, s.All())
	}
	s.wantSlot(t, 8, "b")
	// One that committed ahead of a crash.
	s = bare(t, room, frames)
	s.load(t, []api.TxState{{Tx: 3, State: api.TxCommitted}}, 4)
	s.take(t)
	wantErr(t, "Finish", s.Finish(3), api.OK)
	s.take(t)
	s.wantLast(t, 3, 0, 0)
}
