package analyze_test

import (
	"testing"

	"girder/analyze"
	"girder/api"
	"girder/wal"
)

// busy is a log that says much.
func busy(t *testing.T) store {
	t.Helper()
	said := check(8, []api.TxState{active(6, 5, 4), active(8, 3, 2)}, api.Dirty{Page: 12, LSN: 1}, api.Dirty{Page: 3, LSN: 9})
	s, at := with(t, update(1, 4), plain(api.RecBegin, 0), said, update(2, 5), clr(3, 6, 1), plain(api.RecCommit, 2), update(5, 7))
	s.master(t, at[1])
	return s
}

// R4: what is handed out is new memory, spare room too: who writes into an answer changes no other one, and nothing that is kept.
func TestAnswersAreNewMemory(t *testing.T) {
	s := busy(t)
	want, _ := s.run(t)
	if len(want.Txs) != 5 || len(want.Dirty) != 5 {
		t.Fatalf("%+v", want)
	}
	was := s.look()
	var held []api.Found
	for range 3 {
		f, e := analyze.Run(s.l)
		if !same(f, want) || e != api.OK {
			t.Fatalf("%+v, %d, not %+v", f, e, want)
		}
		held = append(held, f)
	}
	spoilt := held[1]
	for i := range spoilt.Txs[:cap(spoilt.Txs)] {
		spoilt.Txs[:cap(spoilt.Txs)][i] = active(99, 99, 99)
	}
	for i := range spoilt.Dirty[:cap(spoilt.Dirty)] {
		spoilt.Dirty[:cap(spoilt.Dirty)][i] = api.Dirty{Page: 99, LSN: 99}
	}
	if !same(held[0], want) || !same(held[2], want) {
		t.Errorf("%+v, %+v, not %+v", held[0], held[2], want)
	}
	if s.look() != was {
		t.Error("something has changed")
	}
	s.wantFound(t, "behind it", want)
}

// R5: what Run tells is the same each time, and of each log by itself. A dead disk tells no master: then all that is in memory is gone through.
func TestAlways(t *testing.T) {
	s, other := busy(t), bare(t)
	want, _ := s.run(t)
	for range 50 {
		s.wantFound(t, "again", want)
		other.wantFound(t, "another log", api.Found{Redo: 1})
	}
	s.put(t, update(9, 9))
	s.d.Crash(api.Fall{})
	s.wantFound(t, "on a dead disk", s.modelled(t))
	if on, _ := s.run(t); on.Records != 8 || on.Most != 9 {
		t.Errorf("on a dead disk: %+v", on)
	}
	s.d.Up()
	again(t, s.d).wantFound(t, "behind the fall", want)
}

// R1: a log that nobody opened has nothing.
func TestLogOfNobody(t *testing.T) {
	if f, e := analyze.Run(&wal.Log{}); !same(f, api.Found{Redo: 1}) || e != api.OK {
		t.Errorf("%+v, %d", f, e)
	}
}
