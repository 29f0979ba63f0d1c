package lock_test

import (
	"math"
	"slices"
	"testing"

	"girder/api"
	"girder/lock"
)

func wantErr(t *testing.T, what string, e, want api.Errno) {
	t.Helper()
	if e != want {
		t.Errorf("%s: %d, not %d", what, e, want)
	}
}

func wantWho(t *testing.T, what string, got []int, want ...int) {
	t.Helper()
	if !slices.Equal(got, want) {
		t.Errorf("%s: %v, not %v", what, got, want)
	}
}

func wantHeld(t *testing.T, what string, got []api.Held, want ...api.Held) {
	t.Helper()
	if !slices.Equal(got, want) {
		t.Errorf("%s: %v, not %v", what, got, want)
	}
}

// tab is the lock of a table, row that of a row of table 1.
func tab(of int) api.Name { return api.Name{Kind: api.NameTable, Of: of} }

func row(p api.Page, slot int) api.Name {
	return api.Name{Kind: api.NameRow, Of: 1, RID: api.RID{Page: p, Slot: slot}}
}

// had asks for a lock that must be had at once.
func had(t *testing.T, l *lock.Table, tx int, n api.Name, mode int) {
	t.Helper()
	if ok, e := l.Ask(tx, n, mode, false, true); !ok || e != api.OK {
		t.Errorf("%d, %v, %d: %v, %d instead of had", tx, n, mode, ok, e)
	}
}

// waits asks for a lock for which one must wait.
func waits(t *testing.T, l *lock.Table, tx int, n api.Name, mode int) {
	t.Helper()
	if ok, e := l.Ask(tx, n, mode, false, true); ok || e != api.OK {
		t.Errorf("%d, %v, %d: %v, %d instead of not had", tx, n, mode, ok, e)
	}
	wantFor(t, l, tx, n)
}

// waitsInstant is the same, and has nothing by it later.
func waitsInstant(t *testing.T, l *lock.Table, tx int, n api.Name, mode int) {
	t.Helper()
	if ok, e := l.Ask(tx, n, mode, true, true); ok || e != api.OK {
		t.Errorf("%d, %v, %d: %v, %d instead of not had", tx, n, mode, ok, e)
	}
	wantFor(t, l, tx, n)
}

func wantFor(t *testing.T, l *lock.Table, tx int, want api.Name) {
	t.Helper()
	if n, ok := l.For(tx); !ok || n != want || !l.Waits(tx) {
		t.Errorf("%d waits for %v, %v (%v), not for %v", tx, n, ok, l.Waits(tx), want)
	}
}

func wantFree(t *testing.T, l *lock.Table, tx int) {
	t.Helper()
	if n, ok := l.For(tx); ok || n != (api.Name{}) || l.Waits(tx) {
		t.Errorf("%d waits for %v, %v (%v), not for nothing", tx, n, ok, l.Waits(tx))
	}
	wantWho(t, "Blockers", l.Blockers(tx))
	wantWho(t, "Cycle", l.Cycle(tx))
}

func wantHas(t *testing.T, l *lock.Table, tx int, n api.Name, want int) {
	t.Helper()
	if got := l.Has(tx, n); got != want {
		t.Errorf("%d has %d of %v, not %d", tx, got, n, want)
	}
}

// The chapter's example.
func TestExample(t *testing.T) {
	l := lock.New()
	had(t, l, 1, tab(1), api.ModeS)
	had(t, l, 2, tab(1), api.ModeS)
	waits(t, l, 1, tab(1), api.ModeX)
	waits(t, l, 2, tab(1), api.ModeX)
	wantWho(t, "Cycle", l.Cycle(2), 2, 1)
	wantWho(t, "Cycle", l.Cycle(1), 2, 1)
}

// 8.2: ErrArg, if tx is below 1, or the mode is none; ahead of ErrWaits. Nothing is changed by it.
func TestAskWrong(t *testing.T) {
	l := lock.New()
	for _, c := range []struct{ tx, mode int }{
		{0, api.ModeS}, {-1, api.ModeS}, {math.MinInt, api.ModeS},
		{1, 0}, {1, -1}, {1, 6}, {1, math.MaxInt}, {1, math.MinInt}, {0, 0},
	} {
		for _, flags := range [][2]bool{{false, false}, {false, true}, {true, false}, {true, true}} {
			ok, e := l.Ask(c.tx, tab(1), c.mode, flags[0], flags[1])
			if ok || e != api.ErrArg {
				t.Errorf("%d, %d: %v, %d", c.tx, c.mode, ok, e)
			}
		}
	}
	if l.Len() != 0 || len(l.Held(1)) != 0 || len(l.Held(0)) != 0 || l.Waits(0) {
		t.Error("something was left behind")
	}
	had(t, l, 2, tab(1), api.ModeX)
	waits(t, l, 1, tab(1), api.ModeS)
	_, e := l.Ask(1, tab(1), 6, false, true)
	wantErr(t, "no mode, of one that waits", e, api.ErrArg)
}

// 8.2: the least and a great number of a transaction; every name may be one.
func TestAskEdges(t *testing.T) {
	l := lock.New()
	for i, n := range []api.Name{
		{}, tab(0), tab(-1), {Kind: math.MinInt, Of: math.MaxInt, RID: api.RID{Page: math.MaxUint32, Slot: math.MinInt}}, row(1, 0),
	} {
		had(t, l, 1, n, api.ModeIS)
		had(t, l, math.MaxInt, n, api.ModeSIX)
		wantHas(t, l, 1, n, api.ModeIS)
		wantHas(t, l, math.MaxInt, n, api.ModeSIX)
		if l.Len() != i+1 {
			t.Errorf("%v: Len %d", n, l.Len())
		}
	}
}

// 8.2: who waits is told ErrWaits, whatever it asks for, what it has already too; and waits as it did.
func TestAskAgain(t *testing.T) {
	l := lock.New()
	had(t, l, 1, tab(1), api.ModeS)
	had(t, l, 2, tab(1), api.ModeS)
	had(t, l, 2, tab(2), api.ModeX)
	waits(t, l, 2, tab(1), api.ModeX)
	for _, n := range []api.Name{tab(1), tab(2), tab(3)} {
		for _, wait := range []bool{false, true} {
			ok, e := l.Ask(2, n, api.ModeIS, wait, wait)
			if ok || e != api.ErrWaits {
				t.Errorf("%v: %v, %d", n, ok, e)
			}
		}
	}
	wantFor(t, l, 2, tab(1))
	wantHeld(t, "Held", l.Held(2), api.Held{Name: tab(1), Mode: api.ModeS}, api.Held{Name: tab(2), Mode: api.ModeX})
	if l.Len() != 2 {
		t.Errorf("Len %d", l.Len())
	}
	wantWho(t, "Release", l.Release(1), 2)
	had(t, l, 2, tab(3), api.ModeIS)
}

// 8.2: all pairs of modes: what is asked for beside one that has a mode; may it not wait, then nothing is left behind.
func TestAskBeside(t *testing.T) {
	for a := 1; a <= 5; a++ {
		for b := 1; b <= 5; b++ {
			for _, wait := range []bool{false, true} {
				l := lock.New()
				had(t, l, 1, tab(1), a)
				ok, e := l.Ask(2, tab(1), b, false, wait)
				if ok != lock.Compatible(a, b) || e != api.OK {
					t.Errorf("%d beside %d: %v, %d", b, a, ok, e)
				}
				if l.Waits(2) != (wait && !ok) || l.Free(1, tab(1)) != (!wait && !ok) {
					t.Errorf("%d beside %d: it waits: %v; free: %v", b, a, l.Waits(2), l.Free(1, tab(1)))
				}
				want := 0
				if ok {
					want = b
				}
				wantHas(t, l, 2, tab(1), want)
				wantHas(t, l, 1, tab(1), a)
			}
		}
	}
}

// 8.2: alone one has the join of all that one asked for; an asking that one's mode covers is had, and changes nothing.
func TestConvertAlone(t *testing.T) {
	for a := 1; a <= 5; a++ {
		for b := 1; b <= 5; b++ {
			l := lock.New()
			had(t, l, 1, tab(1), a)
			had(t, l, 1, tab(1), b)
			wantHas(t, l, 1, tab(1), lock.Join(a, b))
			if l.Len() != 1 {
				t.Errorf("%d, %d: Len %d", a, b, l.Len())
			}
		}
	}
}

// 8.2: what one's own mode covers is had, though others wait, and whether one may wait or not.
func TestCovered(t *testing.T) {
	l := lock.New()
	had(t, l, 1, tab(1), api.ModeSIX)
	waits(t, l, 2, tab(1), api.ModeX)
	for _, m := range []int{api.ModeIS, api.ModeIX, api.ModeS, api.ModeSIX} {
		for _, instant := range []bool{false, true} {
			if ok, e := l.Ask(1, tab(1), m, instant, !instant); !ok || e != api.OK {
				t.Errorf("%d: %v, %d", m, ok, e)
			}
			wantHas(t, l, 1, tab(1), api.ModeSIX)
		}
	}
	wantFor(t, l, 2, tab(1))
}

// 8.2: an instant asking that is had leaves nothing behind, of one who has nothing and of one who has less.
func TestInstantHad(t *testing.T) {
	l := lock.New()
	if ok, e := l.Ask(1, tab(1), api.ModeX, true, false); !ok || e != api.OK {
		t.Errorf("%v, %d", ok, e)
	}
	if l.Len() != 0 || !l.Free(2, tab(1)) || l.Has(1, tab(1)) != 0 {
		t.Error("something was left behind")
	}
	had(t, l, 2, tab(1), api.ModeIS)
	if ok, e := l.Ask(2, tab(1), api.ModeX, true, true); !ok || e != api.OK {
		t.Errorf("%v, %d", ok, e)
	}
	wantHas(t, l, 2, tab(1), api.ModeIS)
	if ok, e := l.Ask(3, tab(1), api.ModeSIX, true, true); !ok || e != api.OK {
		t.Errorf("beside IS: %v, %d", ok, e)
	}
	if !l.Free(2, tab(1)) {
		t.Error("3 is left behind")
	}
	had(t, l, 1, tab(1), api.ModeSIX)
}

// 8.2: an instant asking that waits stands in the queue, and is granted in its turn; it has nothing by it, and those behind it go on.
func TestInstantWaits(t *testing.T) {
	l := lock.New()
	had(t, l, 1, tab(1), api.ModeX)
	waitsInstant(t, l, 2, tab(1), api.ModeX)
	waits(t, l, 3, tab(1), api.ModeX)
	waits(t, l, 4, tab(1), api.ModeIS)
	wantHas(t, l, 2, tab(1), 0)
	wantWho(t, "Blockers", l.Blockers(3), 1, 2)
	wantWho(t, "Release", l.Release(1), 2, 3)
	wantFree(t, l, 2)
	wantHas(t, l, 2, tab(1), 0)
	wantHas(t, l, 3, tab(1), api.ModeX)
	wantWho(t, "Blockers", l.Blockers(4), 3)
	if l.Free(3, tab(1)) || len(l.Held(2)) != 0 {
		t.Error("Free, Held")
	}
}

// 8.2: an instant asking that is the last in a queue leaves no queue.
func TestInstantAlone(t *testing.T) {
	l := lock.New()
	had(t, l, 1, tab(1), api.ModeX)
	waitsInstant(t, l, 2, tab(1), api.ModeX)
	wantWho(t, "Release", l.Release(1), 2)
	if l.Len() != 0 || !l.Free(9, tab(1)) {
		t.Errorf("Len %d", l.Len())
	}
	had(t, l, 3, tab(1), api.ModeX)
}

// 8.2: an instant conversion that waits keeps what it has, when it is granted.
func TestInstantConversion(t *testing.T) {
	l := lock.New()
	had(t, l, 1, tab(1), api.ModeS)
	had(t, l, 2, tab(1), api.ModeIS)
	waitsInstant(t, l, 2, tab(1), api.ModeX)
	waits(t, l, 3, tab(1), api.ModeS)
	wantHas(t, l, 2, tab(1), api.ModeIS)
	wantWho(t, "Release", l.Release(1), 2, 3)
	wantHas(t, l, 2, tab(1), api.ModeIS)
	wantHas(t, l, 3, tab(1), api.ModeS)
}

// 8.2: what may not wait leaves nothing behind, of one who has nothing and of one who has less.
func TestMayNotWait(t *testing.T) {
	l := lock.New()
	had(t, l, 1, tab(1), api.ModeS)
	had(t, l, 2, tab(1), api.ModeS)
	for _, instant := range []bool{false, true} {
		for tx, has := range map[int]int{2: api.ModeS, 3: 0} {
			if ok, e := l.Ask(tx, tab(1), api.ModeX, instant, false); ok || e != api.OK {
				t.Errorf("%d: %v, %d", tx, ok, e)
			}
			wantFree(t, l, tx)
			wantHas(t, l, tx, tab(1), has)
		}
	}
	had(t, l, 4, tab(1), api.ModeS)
	wantWho(t, "Release", l.Release(1))
}

// 8.2: one that would get on with those that have the lock waits behind one that waits; it may not be had instantly either.
func TestBehindOneThatWaits(t *testing.T) {
	l := lock.New()
	had(t, l, 1, tab(1), api.ModeS)
	waits(t, l, 2, tab(1), api.ModeX)
	if ok, e := l.Ask(3, tab(1), api.ModeS, true, false); ok || e != api.OK {
		t.Errorf("instantly: %v, %d", ok, e)
	}
	waits(t, l, 3, tab(1), api.ModeS)
	wantWho(t, "Blockers", l.Blockers(3), 2)
	wantWho(t, "Cancel", l.Cancel(2), 3)
	wantHas(t, l, 3, tab(1), api.ModeS)
}

// 8.2: one waits behind a conversion that waits, too, though it stands ahead of nobody that waits in the queue.
func TestBehindConversion(t *testing.T) {
	l := lock.New()
	had(t, l, 1, tab(1), api.ModeIS)
	had(t, l, 2, tab(1), api.ModeIX)
	waits(t, l, 1, tab(1), api.ModeS)
	waits(t, l, 3, tab(1), api.ModeIS)
	wantWho(t, "Blockers", l.Blockers(3), 1)
	wantWho(t, "Blockers", l.Blockers(1), 2)
	wantWho(t, "Release", l.Release(2), 1, 3)
}

// 8.2: a conversion does not wait behind others that do not convert.
func TestConversionPassesOthers(t *testing.T) {
	l := lock.New()
	had(t, l, 1, tab(1), api.ModeIS)
	had(t, l, 2, tab(1), api.ModeIS)
	waits(t, l, 3, tab(1), api.ModeX)
	had(t, l, 2, tab(1), api.ModeSIX)
	wantHas(t, l, 2, tab(1), api.ModeSIX)
	wantFor(t, l, 3, tab(1))
	wantWho(t, "Blockers", l.Blockers(3), 1, 2)
}

// 8.2: a conversion waits behind another one that stands ahead of it and waits, not behind one that stands behind it.
func TestConversionBehindConversion(t *testing.T) {
	l := lock.New()
	had(t, l, 1, tab(1), api.ModeIS)
	had(t, l, 2, tab(1), api.ModeIS)
	had(t, l, 3, tab(1), api.ModeIS)
	had(t, l, 4, tab(1), api.ModeS)
	waits(t, l, 2, tab(1), api.ModeIX)
	had(t, l, 1, tab(1), api.ModeS)
	waits(t, l, 3, tab(1), api.ModeS)
	wantWho(t, "Blockers", l.Blockers(2), 1, 4)
	wantWho(t, "Blockers", l.Blockers(3), 2)
	wantWho(t, "Release", l.Release(1))
	wantWho(t, "Release", l.Release(4), 2)
	wantHas(t, l, 2, tab(1), api.ModeIX)
	wantWho(t, "Blockers", l.Blockers(3), 2)
}

// 8.2: who converts stands where it stood, though it asked later than one behind it.
func TestConversionsInTheQueuesOrder(t *testing.T) {
	l := lock.New()
	had(t, l, 5, tab(1), api.ModeIS)
	had(t, l, 3, tab(1), api.ModeIS)
	had(t, l, 9, tab(1), api.ModeSIX)
	waits(t, l, 3, tab(1), api.ModeIX)
	waits(t, l, 5, tab(1), api.ModeIX)
	wantWho(t, "Blockers", l.Blockers(3), 5, 9)
	wantWho(t, "Blockers", l.Blockers(5), 9)
	wantWho(t, "Release", l.Release(9), 5, 3)
}

// 8.2: conversions are granted ahead of the others, whoever came first.
func TestConversionsFirst(t *testing.T) {
	l := lock.New()
	had(t, l, 1, tab(1), api.ModeIX)
	had(t, l, 2, tab(1), api.ModeIS)
	waits(t, l, 3, tab(1), api.ModeS)
	waits(t, l, 2, tab(1), api.ModeS)
	wantWho(t, "Blockers", l.Blockers(3), 1, 2)
	wantWho(t, "Blockers", l.Blockers(2), 1)
	wantWho(t, "Release", l.Release(1), 2, 3)
}

// 8.2: granting ends at the first that can't, though those behind it could.
func TestGrantEnds(t *testing.T) {
	l := lock.New()
	had(t, l, 1, tab(1), api.ModeX)
	waits(t, l, 2, tab(1), api.ModeS)
	waits(t, l, 3, tab(1), api.ModeIS)
	waits(t, l, 4, tab(1), api.ModeIX)
	waits(t, l, 5, tab(1), api.ModeS)
	wantWho(t, "Release", l.Release(1), 2, 3)
	wantFor(t, l, 4, tab(1))
	wantFor(t, l, 5, tab(1))
	wantWho(t, "Blockers", l.Blockers(4), 2)
	wantWho(t, "Blockers", l.Blockers(5), 4)
	wantWho(t, "Release", l.Release(2), 4)
	wantWho(t, "Release", l.Release(4), 5)
}

// 8.2: it ends for all: behind a conversion that can't, no other conversion, and none of the others.
func TestGrantEndsForAll(t *testing.T) {
	l := lock.New()
	had(t, l, 1, tab(1), api.ModeIS)
	had(t, l, 2, tab(1), api.ModeIS)
	had(t, l, 3, tab(1), api.ModeS)
	had(t, l, 4, tab(1), api.ModeS)
	waits(t, l, 1, tab(1), api.ModeX)
	waits(t, l, 2, tab(1), api.ModeS)
	waits(t, l, 5, tab(1), api.ModeIS)
	wantWho(t, "Release", l.Release(3))
	wantWho(t, "Release", l.Release(4))
	for _, tx := range []int{1, 2, 5} {
		wantFor(t, l, tx, tab(1))
	}
	wantWho(t, "Cancel", l.Cancel(1), 2, 5)
}

// 8.2: each grant counts for the next one.
func TestGrantCounts(t *testing.T) {
	l := lock.New()
	had(t, l, 1, tab(1), api.ModeX)
	waits(t, l, 2, tab(1), api.ModeX)
	waits(t, l, 3, tab(1), api.ModeX)
	wantWho(t, "Release", l.Release(1), 2)
	wantFor(t, l, 3, tab(1))
	wantWho(t, "Release", l.Release(2), 3)
}

// 8.2: Release lets go what one has and what one waits for; then each of these locks is granted, by names.
func TestRelease(t *testing.T) {
	names := ordered()
	l := lock.New()
	had(t, l, 100, row(9, 9), api.ModeS)
	for i := len(names) - 1; i >= 0; i-- {
		had(t, l, 50, names[i], api.ModeX)
		waits(t, l, i+1, names[i], api.ModeX)
	}
	waits(t, l, 50, row(9, 9), api.ModeX)
	waits(t, l, 60, row(9, 9), api.ModeS)
	var want []int
	for i := range names {
		want = append(want, i+1)
		if names[i] == row(2, 1) { // the one ahead of row 9, 9
			want = append(want, 60)
		}
	}
	wantWho(t, "Release", l.Release(50), want...)
	wantFree(t, l, 50)
	wantHeld(t, "Held", l.Held(50))
	wantWho(t, "again", l.Release(50))
	wantHeld(t, "Held", l.Held(100), api.Held{Name: row(9, 9), Mode: api.ModeS})
	wantHas(t, l, 60, row(9, 9), api.ModeS)
	if l.Len() != len(names)+1 {
		t.Errorf("Len %d", l.Len())
	}
}

// ordered is names in their order: by Kind, then Of, then the RID's Page, then its Slot.
func ordered() []api.Name {
	return []api.Name{
		{Kind: -1, Of: 5, RID: api.RID{Page: 7, Slot: 7}},
		{Kind: 0},
		tab(-3),
		tab(1),
		tab(2),
		row(1, -1),
		row(1, 0),
		row(1, 10),
		row(2, 0),
		row(2, 1),
		{Kind: api.NameRow, Of: 2, RID: api.RID{Page: 1, Slot: 0}},
		{Kind: api.NameEnd, Of: 1},
		{Kind: api.NameEnd, Of: 1, RID: api.RID{Page: math.MaxUint32}},
		{Kind: api.NameEnd, Of: 10},
	}
}

// 8.2: Release of one that converts lets go what it has, too; of one that has nothing, what it waits for.
func TestReleaseOfOneThatWaits(t *testing.T) {
	l := lock.New()
	had(t, l, 1, tab(1), api.ModeS)
	had(t, l, 2, tab(1), api.ModeS)
	waits(t, l, 1, tab(1), api.ModeX)
	waits(t, l, 3, tab(1), api.ModeS)
	wantWho(t, "Release", l.Release(1), 3)
	wantHas(t, l, 1, tab(1), 0)
	waits(t, l, 4, tab(1), api.ModeX)
	waits(t, l, 5, tab(1), api.ModeIS)
	wantWho(t, "Release", l.Release(4), 5)
	wantFree(t, l, 4)
}

// 8.2: Release where nothing is had or waited for: nothing.
func TestReleaseOfNobody(t *testing.T) {
	l := lock.New()
	had(t, l, 1, tab(1), api.ModeX)
	waits(t, l, 2, tab(1), api.ModeX)
	for _, tx := range []int{3, 0, -1, math.MinInt, math.MaxInt} {
		wantWho(t, "Release", l.Release(tx))
		wantWho(t, "Cancel", l.Cancel(tx))
	}
	wantHas(t, l, 1, tab(1), api.ModeX)
	wantFor(t, l, 2, tab(1))
}

// 8.2: Cancel of one that waits: those behind it may go on; what it has anywhere stays.
func TestCancel(t *testing.T) {
	l := lock.New()
	had(t, l, 1, tab(1), api.ModeS)
	had(t, l, 2, tab(2), api.ModeX)
	waits(t, l, 2, tab(1), api.ModeX)
	waits(t, l, 3, tab(1), api.ModeS)
	waits(t, l, 4, tab(1), api.ModeIS)
	waits(t, l, 5, tab(2), api.ModeIS)
	wantWho(t, "Cancel", l.Cancel(2), 3, 4)
	wantFree(t, l, 2)
	wantHas(t, l, 2, tab(1), 0)
	wantHeld(t, "Held", l.Held(2), api.Held{Name: tab(2), Mode: api.ModeX})
	wantFor(t, l, 5, tab(2))
	had(t, l, 2, tab(3), api.ModeX)
}

// 8.2: Cancel of a conversion: what it had stays.
func TestCancelConversion(t *testing.T) {
	l := lock.New()
	had(t, l, 1, tab(1), api.ModeS)
	had(t, l, 2, tab(1), api.ModeS)
	waits(t, l, 2, tab(1), api.ModeX)
	waits(t, l, 3, tab(1), api.ModeIS)
	wantWho(t, "Cancel", l.Cancel(2), 3)
	wantFree(t, l, 2)
	wantHas(t, l, 2, tab(1), api.ModeS)
	wantWho(t, "Release", l.Release(1))
}

// 8.2: Cancel of one that waits behind another one: nobody goes on. Of one that does not wait: nothing.
func TestCancelNothing(t *testing.T) {
	l := lock.New()
	had(t, l, 1, tab(1), api.ModeX)
	waits(t, l, 2, tab(1), api.ModeS)
	waits(t, l, 3, tab(1), api.ModeS)
	wantWho(t, "Cancel", l.Cancel(1))
	wantHas(t, l, 1, tab(1), api.ModeX)
	wantWho(t, "Cancel", l.Cancel(3))
	wantWho(t, "Cancel", l.Cancel(3))
	wantFor(t, l, 2, tab(1))
	wantWho(t, "Release", l.Release(1), 2)
}

// 8.2: an instant asking that was cancelled is forgotten: what is asked for later is kept.
func TestCancelInstant(t *testing.T) {
	l := lock.New()
	had(t, l, 1, tab(1), api.ModeS)
	had(t, l, 2, tab(1), api.ModeS)
	waitsInstant(t, l, 2, tab(1), api.ModeX)
	wantWho(t, "Cancel", l.Cancel(2))
	waits(t, l, 2, tab(1), api.ModeX)
	wantWho(t, "Release", l.Release(1), 2)
	wantHas(t, l, 2, tab(1), api.ModeX)
}

// 8.3: Held is by names; what one waits for is not in it, and of a conversion it is what one has.
func TestHeld(t *testing.T) {
	l := lock.New()
	names := ordered()
	var want []api.Held
	for i := range names {
		want = append(want, api.Held{Name: names[i], Mode: 1 + i%5})
		at := len(names) - 1 - i
		had(t, l, 7, names[at], 1+at%5)
	}
	had(t, l, 8, tab(77), api.ModeX)
	waits(t, l, 7, tab(77), api.ModeIS)
	wantHeld(t, "Held", l.Held(7), want...)
	wantHeld(t, "Held", l.Held(8), api.Held{Name: tab(77), Mode: api.ModeX})
	wantHeld(t, "Held", l.Held(9))
	wantHeld(t, "Held", l.Held(0))
	l.Cancel(7)
	had(t, l, 8, row(1, 0), api.ModeIS) // 7 has IX
	waits(t, l, 7, row(1, 0), api.ModeX)
	wantHeld(t, "Held", l.Held(7), want...)
}

// 8.3: Free looks at all in the queue but at the one that asks: who has it, and who waits for it.
func TestFree(t *testing.T) {
	l := lock.New()
	for _, tx := range []int{1, 0, -1} {
		if !l.Free(tx, tab(1)) {
			t.Errorf("%d: a lock without a queue", tx)
		}
	}
	had(t, l, 1, tab(1), api.ModeIS)
	if !l.Free(1, tab(1)) || l.Free(2, tab(1)) || l.Free(0, tab(1)) || !l.Free(2, tab(2)) {
		t.Error("of one that has it")
	}
	had(t, l, 2, tab(1), api.ModeIS)
	if l.Free(1, tab(1)) || l.Free(2, tab(1)) || l.Free(3, tab(1)) {
		t.Error("of two that have it")
	}
	l.Release(2)
	waits(t, l, 2, tab(1), api.ModeX)
	if l.Free(1, tab(1)) || l.Free(2, tab(1)) {
		t.Error("of one that has it, and one that waits")
	}
	l.Cancel(2)
	if !l.Free(1, tab(1)) {
		t.Error("of one that has it, when the other one waits no more")
	}
}

// 8.3: Len counts locks, not those in their queues.
func TestLen(t *testing.T) {
	l := lock.New()
	for i := range 100 {
		had(t, l, 1+i%3, tab(i/2), api.ModeIS)
		if l.Len() != i/2+1 {
			t.Fatalf("%d: Len %d", i, l.Len())
		}
	}
	for tx := 1; tx <= 3; tx++ {
		if l.Len() == 0 {
			t.Errorf("nothing is left ahead of %d", tx)
		}
		l.Release(tx)
	}
	if l.Len() != 0 {
		t.Errorf("Len %d", l.Len())
	}
}

// 8.3: on a nil Table: Ask ErrArg, Free true, all else nothing.
func TestNil(t *testing.T) {
	var l *lock.Table
	if ok, e := l.Ask(1, tab(1), api.ModeS, false, true); ok || e != api.ErrArg {
		t.Errorf("Ask: %v, %d", ok, e)
	}
	if !l.Free(1, tab(1)) || !l.Free(0, api.Name{}) {
		t.Error("Free")
	}
	for _, tx := range []int{-1, 0, 1} {
		wantFree(t, l, tx)
		wantWho(t, "Release", l.Release(tx))
		wantWho(t, "Cancel", l.Cancel(tx))
		wantHas(t, l, tx, tab(1), 0)
		wantHeld(t, "Held", l.Held(tx))
	}
	if l.Len() != 0 || l.Clone() != nil {
		t.Error("Len, Clone")
	}
}
