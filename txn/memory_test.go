package txn_test

import (
	"slices"
	"testing"

	"girder/api"
)

// busy is a store with transactions of all states, of which some committed.
func busy(t *testing.T) store {
	t.Helper()
	s := begun(t, frames)
	s.lay(t, 5, "a")
	for range 3 {
		wantErr(t, "Commit", s.Commit(s.begin(t)), api.OK)
	}
	l := []api.TxState{{Tx: 9, State: api.TxCommitted, Last: 1, Next: 2}, {Tx: 7, State: api.TxAborting, Last: 3, Next: 4}}
	// Spare room behind the list's end, which is not the manager's.
	l = append(make([]api.TxState, 0, 8), l...)
	wantErr(t, "Load", s.Load(l, 20), api.OK)
	for i := range l[:cap(l)] {
		l[:cap(l)][i] = api.TxState{Tx: 99, State: 99, Last: 99, Next: 99}
	}
	s.log(t, s.begin(t), set(5, 0, "a", "b"))
	return s
}

// R4: what is told is new memory, its spare room too; what was handed in is not kept.
func TestMemory(t *testing.T) {
	s := busy(t)
	if all := s.All(); len(all) != 3 || all[0] != (api.TxState{Tx: 7, State: api.TxAborting, Last: 3, Next: 4}) || all[1] != (api.TxState{Tx: 9, State: api.TxCommitted, Last: 1, Next: 2}) {
		t.Fatal("Load keeps what was handed in:", all)
	}
	all, done := s.All(), s.Done()
	wantAll, wantDone := slices.Clone(all), slices.Clone(done)
	otherAll, otherDone := s.All(), s.Done()
	for i := range all[:cap(all)] {
		all[:cap(all)][i] = api.TxState{Tx: 99, State: 99, Last: 99, Next: 99}
	}
	for i := range done[:cap(done)] {
		done[:cap(done)][i] = 99
	}
	if !slices.Equal(otherAll, wantAll) || !slices.Equal(otherDone, wantDone) {
		t.Error("two answers share memory:", otherAll, otherDone)
	}
	if !slices.Equal(s.All(), wantAll) || !slices.Equal(s.Done(), wantDone) {
		t.Error("an answer shares memory with the manager:", s.All(), s.Done())
	}
	// And what was told stays as it was told.
	wantErr(t, "Finish", s.Finish(9), api.OK)
	wantErr(t, "Commit", s.Commit(20), api.OK)
	if !slices.Equal(otherAll, wantAll) || !slices.Equal(otherDone, wantDone) {
		t.Error("an answer goes on changing:", otherAll, otherDone)
	}
	if !slices.Equal(s.Done(), append(wantDone, 20)) {
		t.Error("Done:", s.Done())
	}
}

// R4, R5: two managers have nothing in common but what they stand on.
func TestApart(t *testing.T) {
	a, b := begun(t, frames), begun(t, frames)
	a.lay(t, 5, "a")
	b.lay(t, 5, "a")
	a.begin(t)
	a.log(t, a.begin(t), set(5, 0, "a", "b"))
	wantErr(t, "Commit", a.Commit(1), api.OK)
	if len(b.All()) != 0 || len(b.Done()) != 0 || b.Coming() != 1 || b.l.Kept() != 0 || b.l.Len() != 0 {
		t.Error(b.All(), b.Done(), b.Coming())
	}
	b.wantSlots(t, 5, "a")
}

// R5: the same calls have the same answers.
func TestAgain(t *testing.T) {
	one, two := newWalk(t, 77, 5), newWalk(t, 77, 5)
	for range 300 {
		one.step()
		two.step()
		if one.l.End() != two.l.End() || !slices.Equal(one.All(), two.All()) {
			t.Fatal("step", one.steps)
		}
	}
	if !slices.Equal(one.Done(), two.Done()) {
		t.Error(one.Done(), two.Done())
	}
}
