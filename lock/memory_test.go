package lock_test

import (
	"slices"
	"testing"

	"girder/api"
	"girder/lock"
)

// busy is a table with some of everything: conversions, instant askings, a cycle.
func busy(t *testing.T) *lock.Table {
	t.Helper()
	l := lock.New()
	for tx := 1; tx <= 4; tx++ {
		had(t, l, tx, tab(1), api.ModeIS)
		had(t, l, tx, tab(10+tx), api.ModeX)
	}
	had(t, l, 4, tab(1), api.ModeS)
	waits(t, l, 2, tab(1), api.ModeX)
	waitsInstant(t, l, 3, tab(1), api.ModeIX)
	waitsInstant(t, l, 5, tab(1), api.ModeS)
	waits(t, l, 6, tab(1), api.ModeS)
	waits(t, l, 4, tab(13), api.ModeS)
	return l
}

// seen is all that a table tells.
type seen struct {
	waits           []int
	fors            []api.Name
	has             []int
	free            []int
	held            []api.Held
	blockers, cycle []int
	len             int
}

func look(l *lock.Table) seen {
	s := seen{len: l.Len()}
	for tx := 0; tx <= 8; tx++ {
		if n, ok := l.For(tx); ok && l.Waits(tx) {
			s.waits = append(s.waits, tx)
			s.fors = append(s.fors, n)
		}
		for of := range 20 {
			s.has = append(s.has, l.Has(tx, tab(of)))
			if l.Free(tx, tab(of)) {
				s.free = append(s.free, 100*tx+of)
			}
		}
		s.held = append(append(s.held, l.Held(tx)...), api.Held{})
		s.blockers = append(append(s.blockers, l.Blockers(tx)...), -1)
		s.cycle = append(append(s.cycle, l.Cycle(tx)...), -1)
	}
	return s
}

func same(a, b seen) bool {
	return slices.Equal(a.waits, b.waits) && slices.Equal(a.fors, b.fors) && slices.Equal(a.has, b.has) &&
		slices.Equal(a.free, b.free) && slices.Equal(a.held, b.held) && slices.Equal(a.blockers, b.blockers) &&
		slices.Equal(a.cycle, b.cycle) && a.len == b.len
}

// ways is things that may be done to a busy table, each of which changes it.
func ways() []func(l *lock.Table) {
	return []func(l *lock.Table){
		func(l *lock.Table) { l.Release(1) },
		func(l *lock.Table) { l.Release(2) },
		func(l *lock.Table) { l.Release(4) },
		func(l *lock.Table) { l.Release(6) },
		func(l *lock.Table) { l.Cancel(2) },
		func(l *lock.Table) { l.Cancel(3) },
		func(l *lock.Table) { l.Cancel(5) },
		func(l *lock.Table) { l.Ask(1, tab(1), api.ModeX, false, true) },
		func(l *lock.Table) {
			l.Ask(1, tab(11), api.ModeX, false, true)
			l.Ask(1, tab(5), api.ModeX, false, true)
		},
		func(l *lock.Table) { l.Ask(8, tab(1), api.ModeIS, false, true) },
		func(l *lock.Table) { l.Ask(8, tab(19), api.ModeIS, false, false) },
	}
}

// 8.3: a Clone is the same, and goes on in the same way.
func TestCloneIsTheSame(t *testing.T) {
	l := busy(t)
	if !same(look(l), look(l.Clone())) {
		t.Error("not the same")
	}
	for i, way := range ways() {
		a, b := busy(t), l.Clone()
		way(a)
		way(b)
		if !same(look(a), look(b)) {
			t.Errorf("way %d: not the same", i)
		}
		for tx := 1; tx <= 8; tx++ {
			wantWho(t, "Release of a Clone", b.Release(tx), a.Release(tx)...)
		}
		if b.Len() != 0 {
			t.Errorf("way %d: %d left", i, b.Len())
		}
	}
	if c := lock.New().Clone(); c == nil || c.Len() != 0 {
		t.Error("of an empty one")
	}
	had(t, lock.New().Clone(), 1, tab(1), api.ModeS)
}

// 8.3, R4: what is done to the one of the two is not seen in the other.
func TestCloneIsItsOwn(t *testing.T) {
	for i, way := range ways() {
		l := busy(t)
		was := look(l)
		c := l.Clone()
		way(c)
		if !same(look(l), was) {
			t.Errorf("way %d of the Clone is seen in the original", i)
		}
		if same(look(c), was) {
			t.Errorf("way %d changes nothing", i)
		}
		c = l.Clone()
		way(l)
		if !same(look(c), was) {
			t.Errorf("way %d of the original is seen in the Clone", i)
		}
		c.Release(6)
		c.Ask(7, tab(1), api.ModeX, false, true)
		c.Ask(8, tab(1), api.ModeX, false, true)
		d := look(l)
		c.Release(7)
		if !same(look(l), d) {
			t.Errorf("way %d: the two touch each other", i)
		}
	}
}

// spoil writes over a list, its spare room too.
func spoil[T any](l []T, with T) {
	l = l[:cap(l)]
	for i := range l {
		l[i] = with
	}
}

// R4: what was told is nobody else's memory: neither the table's nor another answer's.
func TestToldIsNew(t *testing.T) {
	l := busy(t)
	was := look(l)
	for tx := 1; tx <= 6; tx++ {
		a, b := l.Blockers(tx), l.Cycle(tx)
		keptA, keptB := slices.Clone(a), slices.Clone(b)
		h := l.Held(tx)
		spoil(l.Blockers(tx), -7)
		spoil(l.Cycle(tx), -7)
		spoil(l.Held(tx), api.Held{Name: tab(-7), Mode: -7})
		if !slices.Equal(a, keptA) || !slices.Equal(b, keptB) {
			t.Errorf("%d: two answers share memory", tx)
		}
		spoil(a, -7)
		spoil(b, -7)
		spoil(h, api.Held{})
	}
	if !same(look(l), was) {
		t.Error("an answer is the table's memory")
	}
	c := l.Clone()
	spoil(l.Release(4), -7)
	spoil(l.Cancel(6), -7)
	c.Release(4)
	c.Cancel(6)
	if !same(look(l), look(c)) {
		t.Error("an answer of Release or Cancel is the table's memory")
	}
}
