package lock_test

import (
	"testing"

	"girder/api"
	"girder/lock"
)

// 8.3: one that waits for nobody but itself is in no cycle: what it has does not block it.
func TestNobodyBlocksItself(t *testing.T) {
	l := lock.New()
	had(t, l, 1, tab(1), api.ModeS)
	had(t, l, 2, tab(1), api.ModeS)
	waits(t, l, 1, tab(1), api.ModeX)
	wantWho(t, "Blockers", l.Blockers(1), 2)
	wantWho(t, "Cycle", l.Cycle(1))
	wantWho(t, "Cycle", l.Cycle(2))
}

// 8.3: blockers rise, whatever their order in the queue.
func TestBlockersRise(t *testing.T) {
	l := lock.New()
	for _, tx := range []int{7, 3, 12, 5} {
		had(t, l, tx, tab(1), api.ModeIS)
	}
	had(t, l, 5, tab(1), api.ModeS)
	waits(t, l, 9, tab(1), api.ModeIX)
	waits(t, l, 2, tab(1), api.ModeIS)
	waits(t, l, 12, tab(1), api.ModeIX)
	waits(t, l, 7, tab(1), api.ModeX)
	wantWho(t, "Blockers", l.Blockers(7), 3, 5, 12)
	wantWho(t, "Blockers", l.Blockers(12), 5, 7)
	wantWho(t, "Blockers", l.Blockers(9), 5, 7, 12)
	wantWho(t, "Blockers", l.Blockers(2), 7, 9, 12)
	wantWho(t, "Blockers", l.Blockers(3))
	wantWho(t, "Blockers", l.Blockers(5))
}

// crosswise lets each of these have a lock of its own, and wait for the next one's, the last one for the first one's.
func crosswise(t *testing.T, txs ...int) *lock.Table {
	t.Helper()
	l := lock.New()
	for i, tx := range txs {
		had(t, l, tx, tab(i), api.ModeX)
	}
	for i, tx := range txs {
		waits(t, l, tx, tab((i+1)%len(txs)), api.ModeS)
	}
	return l
}

// 8.3: cycles of two, three and more, told from each one in them, falling.
func TestCycle(t *testing.T) {
	for _, c := range []struct{ txs, falling []int }{
		{[]int{1, 2}, []int{2, 1}},
		{[]int{2, 1}, []int{2, 1}},
		{[]int{1, 2, 3}, []int{3, 2, 1}},
		{[]int{3, 2, 1}, []int{3, 2, 1}},
		{[]int{5, 30, 2}, []int{30, 5, 2}},
		{[]int{4, 9, 1, 8, 3}, []int{9, 8, 4, 3, 1}},
	} {
		l := crosswise(t, c.txs...)
		for _, tx := range c.txs {
			wantWho(t, "Cycle", l.Cycle(tx), c.falling...)
		}
	}
}

// 8.3: a cycle of three ends when one lets go, waits no more, or is not there.
func TestCycleBroken(t *testing.T) {
	for _, tx := range []int{1, 2, 3} {
		l := crosswise(t, 1, 2, 3)
		wantWho(t, "Release", l.Release(tx), 1+(tx+1)%3)
		for other := 1; other <= 3; other++ {
			wantWho(t, "Cycle", l.Cycle(other))
		}
		l = crosswise(t, 1, 2, 3)
		wantWho(t, "Cancel", l.Cancel(tx))
		for other := 1; other <= 3; other++ {
			wantWho(t, "Cycle", l.Cycle(other))
		}
	}
}

// 8.3: who waits for one in a cycle, but is in none itself, has none; nor has one who does not wait, or is not there.
func TestBesideACycle(t *testing.T) {
	l := crosswise(t, 2, 3)
	waits(t, l, 4, tab(0), api.ModeX)
	had(t, l, 5, tab(9), api.ModeS)
	waits(t, l, 6, tab(9), api.ModeX)
	for _, tx := range []int{4, 5, 6, 7, 0, -1} {
		wantWho(t, "Cycle", l.Cycle(tx))
	}
	wantWho(t, "Cycle", l.Cycle(3), 3, 2)
}

// 8.3: a chain without an end at its beginning is no cycle.
func TestChain(t *testing.T) {
	l := lock.New()
	for tx := 1; tx <= 50; tx++ {
		had(t, l, tx, tab(tx), api.ModeX)
	}
	for tx := 2; tx <= 50; tx++ {
		waits(t, l, tx, tab(tx-1), api.ModeX)
	}
	for tx := 1; tx <= 50; tx++ {
		wantWho(t, "Cycle", l.Cycle(tx))
	}
	waits(t, l, 1, tab(50), api.ModeIS)
	if c := l.Cycle(25); len(c) != 50 || c[0] != 50 || c[49] != 1 {
		t.Errorf("Cycle: %v", c)
	}
}

// 8.3: the way goes by rising numbers: of two ways the one by the lesser blocker, though it is longer.
func TestTheFirstWay(t *testing.T) {
	l := lock.New()
	had(t, l, 1, tab(1), api.ModeX)
	had(t, l, 2, tab(2), api.ModeS)
	had(t, l, 3, tab(2), api.ModeS)
	had(t, l, 4, tab(4), api.ModeX)
	waits(t, l, 2, tab(4), api.ModeS)
	waits(t, l, 3, tab(1), api.ModeS)
	waits(t, l, 4, tab(1), api.ModeS)
	waits(t, l, 1, tab(2), api.ModeX)
	// 1 waits for 2 and 3; 2 for 4; 3 for 1; 4 for 1 and 3: so 1, 2, 4, 1, and not 1, 3, 1.
	wantWho(t, "Blockers", l.Blockers(4), 1, 3)
	wantWho(t, "Cycle", l.Cycle(1), 4, 2, 1)
	wantWho(t, "Cycle", l.Cycle(2), 4, 2, 1)
	wantWho(t, "Cycle", l.Cycle(3), 4, 3, 2, 1)
}

// 8.3: those on a way that came to nothing are not told.
func TestDeadEnds(t *testing.T) {
	l := lock.New()
	for _, tx := range []int{1, 2, 3, 5} {
		had(t, l, tx, tab(tx), api.ModeX)
	}
	for _, tx := range []int{2, 4, 5} {
		had(t, l, tx, tab(10), api.ModeS)
	}
	waits(t, l, 3, tab(1), api.ModeX) // 1 does not wait
	waits(t, l, 2, tab(3), api.ModeX) // 2, 3, 1: no way on
	had(t, l, 9, tab(9), api.ModeX)
	waits(t, l, 5, tab(9), api.ModeX)
	waits(t, l, 9, tab(10), api.ModeX)
	wantWho(t, "Blockers", l.Blockers(9), 2, 4, 5)
	wantWho(t, "Cycle", l.Cycle(9), 9, 5)
	wantWho(t, "Cycle", l.Cycle(5), 9, 5)
	wantWho(t, "Cycle", l.Cycle(2))
}

// 8.3: a cycle by one that waits ahead in the queue, and has nothing of it.
func TestCycleByTheQueue(t *testing.T) {
	l := lock.New()
	had(t, l, 1, tab(1), api.ModeS)
	had(t, l, 3, tab(2), api.ModeX)
	waits(t, l, 2, tab(1), api.ModeX)
	waits(t, l, 3, tab(1), api.ModeS)
	waits(t, l, 1, tab(2), api.ModeS)
	wantWho(t, "Blockers", l.Blockers(3), 2)
	wantWho(t, "Cycle", l.Cycle(3), 3, 2, 1)
}

// R1: in a queue that came falling each one goes to the one ahead: the way is long, and ends.
func TestLongQueue(t *testing.T) {
	l := lock.New()
	const last = 400
	had(t, l, last+1, tab(1), api.ModeX)
	for tx := last; tx >= 1; tx-- {
		waits(t, l, tx, tab(1), api.ModeX)
	}
	wantWho(t, "Cycle", l.Cycle(1))
	had(t, l, 1000, tab(2), api.ModeX)
	waits(t, l, last+1, tab(2), api.ModeS)
	waits(t, l, 1000, tab(1), api.ModeX)
	if c := l.Cycle(1000); len(c) != last+2 || c[0] != 1000 {
		t.Errorf("Cycle: %d of them", len(c))
	}
}
