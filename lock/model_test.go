package lock_test

import (
	"math/rand"
	"slices"
	"testing"

	"girder/api"
	"girder/lock"
)

// The model keeps one list of all that is had, and one of all that is waited for, each thing with the turn in which its owner came to the lock; and goes by the chapter's words.

// grip is a mode of a lock that somebody has, or waits for.
type grip struct {
	tx, mode, came int
	n              api.Name
	instant        bool
}

type model struct {
	has, waits []grip
	turn       int
}

func find(l []grip, tx int, n api.Name) int {
	return slices.IndexFunc(l, func(g grip) bool { return g.tx == tx && g.n == n })
}

func (w *model) waiting(tx int) int {
	return slices.IndexFunc(w.waits, func(g grip) bool { return g.tx == tx })
}

func (w *model) mode(tx int, n api.Name) int {
	if i := find(w.has, tx, n); i >= 0 {
		return w.has[i].mode
	}
	return 0
}

func (w *model) converts(g grip) bool { return w.mode(g.tx, g.n) != 0 }

// fits tells whether a mode gets on with what all others have.
func (w *model) fits(g grip) bool {
	for _, h := range w.has {
		if h.n == g.n && h.tx != g.tx && !lock.Compatible(h.mode, g.mode) {
			return false
		}
	}
	return true
}

func (w *model) give(g grip) {
	i := find(w.has, g.tx, g.n)
	switch {
	case g.instant:
	case i >= 0:
		w.has[i].mode = g.mode
	default:
		w.has = append(w.has, g)
	}
}

func (w *model) ask(tx int, n api.Name, mode int, instant, wait bool) (bool, api.Errno) {
	if tx < 1 || mode < 1 || mode > 5 {
		return false, api.ErrArg
	}
	if w.waiting(tx) >= 0 {
		return false, api.ErrWaits
	}
	w.turn++
	own := w.mode(tx, n)
	g := grip{tx: tx, mode: lock.Join(own, mode), came: w.turn, n: n, instant: instant}
	if g.mode == own {
		return true, api.OK
	}
	if own != 0 {
		g.came = w.has[find(w.has, tx, n)].came
	}
	ahead := slices.ContainsFunc(w.waits, func(o grip) bool {
		if own != 0 {
			return o.n == n && w.converts(o) && o.came < g.came
		}
		return o.n == n
	})
	if w.fits(g) && !ahead {
		w.give(g)
		return true, api.OK
	}
	if wait {
		w.waits = append(w.waits, g)
	}
	return false, api.OK
}

func byTurn(a, b grip) int { return a.came - b.came }

// grant goes over those that wait for a lock: first those that convert, then the others.
func (w *model) grant(n api.Name) []int {
	var first, then []grip
	for _, g := range w.waits {
		if g.n == n && w.converts(g) {
			first = append(first, g)
		} else if g.n == n {
			then = append(then, g)
		}
	}
	slices.SortFunc(first, byTurn)
	slices.SortFunc(then, byTurn)
	var who []int
	for _, g := range append(first, then...) {
		if !w.fits(g) {
			return who
		}
		w.stop(g.tx)
		w.give(g)
		who = append(who, g.tx)
	}
	return who
}

func (w *model) stop(tx int) {
	w.waits = slices.DeleteFunc(w.waits, func(g grip) bool { return g.tx == tx })
}

func (w *model) cancel(tx int) []int {
	i := w.waiting(tx)
	if i < 0 {
		return nil
	}
	n := w.waits[i].n
	w.stop(tx)
	return w.grant(n)
}

// names is all locks of a walk, in their order.
func names() []api.Name {
	return []api.Name{tab(1), tab(2), row(1, 0), row(1, 3), row(2, 0)}
}

func (w *model) release(tx int) []int {
	was := model{has: slices.Clone(w.has), waits: slices.Clone(w.waits)}
	w.stop(tx)
	w.has = slices.DeleteFunc(w.has, func(g grip) bool { return g.tx == tx })
	var who []int
	for _, n := range names() {
		if find(was.has, tx, n) >= 0 || find(was.waits, tx, n) >= 0 {
			who = append(who, w.grant(n)...)
		}
	}
	return who
}

func (w *model) blocks(o, tx int) bool {
	i := w.waiting(tx)
	if i < 0 || o == tx {
		return false
	}
	g := w.waits[i]
	if m := w.mode(o, g.n); m != 0 && !lock.Compatible(m, g.mode) {
		return true
	}
	j := find(w.waits, o, g.n)
	if j < 0 {
		return false
	}
	ahead := w.waits[j].came < g.came
	switch oc, gc := w.converts(w.waits[j]), w.converts(g); {
	case gc:
		return oc && ahead
	case oc:
		return true
	}
	return ahead
}

// most transactions in a walk.
const txs = 6

func (w *model) blockers(tx int) []int {
	var l []int
	for o := 1; o <= txs; o++ {
		if w.blocks(o, tx) {
			l = append(l, o)
		}
	}
	return l
}

// way is the way back to tx from one on it, by itself.
func (w *model) way(tx, at int, been []int) ([]int, []int) {
	for _, b := range w.blockers(at) {
		if b == tx {
			return []int{at}, been
		}
		if slices.Contains(been, b) {
			continue
		}
		var l []int
		if l, been = w.way(tx, b, append(been, b)); l != nil {
			return append(l, at), been
		}
	}
	return nil, been
}

func (w *model) cycle(tx int) []int {
	l, _ := w.way(tx, tx, nil)
	slices.SortFunc(l, func(a, b int) int { return b - a })
	return l
}

// hold holds all that a table tells against the model.
func (w *model) hold(t *testing.T, l *lock.Table) {
	t.Helper()
	busy := 0
	for _, n := range names() {
		in := func(g grip) bool { return g.n == n }
		if slices.ContainsFunc(w.has, in) || slices.ContainsFunc(w.waits, in) {
			busy++
		}
	}
	if l.Len() != busy {
		t.Fatalf("Len %d, not %d", l.Len(), busy)
	}
	for tx := 0; tx <= txs+1; tx++ {
		i := w.waiting(tx)
		n, ok := l.For(tx)
		if ok != (i >= 0) || l.Waits(tx) != ok || ok && n != w.waits[i].n || !ok && n != (api.Name{}) {
			t.Fatalf("%d waits for %v, %v", tx, n, ok)
		}
		var held []api.Held
		for _, n := range names() {
			m := w.mode(tx, n)
			if m != 0 {
				held = append(held, api.Held{Name: n, Mode: m})
			}
			other := func(g grip) bool { return g.n == n && g.tx != tx }
			free := !slices.ContainsFunc(w.has, other) && !slices.ContainsFunc(w.waits, other)
			if l.Has(tx, n) != m || l.Free(tx, n) != free {
				t.Fatalf("%d has %d of %v, free %v; not %d, %v", tx, l.Has(tx, n), n, l.Free(tx, n), m, free)
			}
		}
		if !slices.Equal(l.Held(tx), held) {
			t.Fatalf("Held of %d: %v, not %v", tx, l.Held(tx), held)
		}
		if b := l.Blockers(tx); !slices.Equal(b, w.blockers(tx)) {
			t.Fatalf("Blockers of %d: %v, not %v", tx, b, w.blockers(tx))
		}
		if c := l.Cycle(tx); !slices.Equal(c, w.cycle(tx)) {
			t.Fatalf("Cycle of %d: %v, not %v", tx, c, w.cycle(tx))
		}
	}
}

// wantWell holds a table against 8.4: those that have a lock get on with one another, and whoever waits comes, from blocker to blocker, to one who does not wait, or a cycle is on the way.
func wantWell(t *testing.T, l *lock.Table) {
	t.Helper()
	for _, n := range names() {
		for a := 1; a <= txs; a++ {
			for b := 1; b < a; b++ {
				if x, y := l.Has(a, n), l.Has(b, n); x != 0 && y != 0 && !lock.Compatible(x, y) {
					t.Fatalf("%v: %d has %d, %d has %d", n, a, x, b, y)
				}
			}
		}
	}
	cycles, still, moves := 0, 0, 0
	for tx := 1; tx <= txs; tx++ {
		cycles += len(l.Cycle(tx))
		if !l.Waits(tx) {
			moves++
			continue
		}
		still++
		if len(l.Blockers(tx)) == 0 {
			t.Fatalf("%d waits for nobody", tx)
		}
	}
	if still > 0 && moves == 0 && cycles == 0 {
		t.Fatal("nobody can go on, and there is no cycle")
	}
}

// step does one thing to both, and holds what is told.
func (w *model) step(t *testing.T, r *rand.Rand, l *lock.Table) {
	t.Helper()
	tx := r.Intn(txs + 1)
	switch k := r.Intn(20); {
	case k == 0:
		wantWho(t, "Release", l.Release(tx), w.release(tx)...)
	case k < 3:
		wantWho(t, "Cancel", l.Cancel(tx), w.cancel(tx)...)
	default:
		n, mode := names()[r.Intn(1+r.Intn(5))], r.Intn(7)
		instant, wait := r.Intn(4) == 0, r.Intn(8) != 0
		ok, e := l.Ask(tx, n, mode, instant, wait)
		if wantOk, want := w.ask(tx, n, mode, instant, wait); ok != wantOk || e != want {
			t.Fatalf("Ask %d, %v, %d, %v, %v: %v, %d; not %v, %d", tx, n, mode, instant, wait, ok, e, wantOk, want)
		}
	}
}

// 8.2, 8.3, 8.4: long walks against the model, sometimes on a Clone.
func TestWalks(t *testing.T) {
	for seed := range int64(300) {
		r := rand.New(rand.NewSource(seed))
		l, w := lock.New(), &model{}
		for range 300 {
			w.step(t, r, l)
			w.hold(t, l)
			wantWell(t, l)
			if r.Intn(20) == 0 {
				l = l.Clone()
			}
			if t.Failed() {
				t.Fatalf("seed %d", seed)
			}
		}
	}
}

// 8.4, T6: when the greatest of each cycle lets go, all come to their ends, whatever they ask for.
func TestAllEnd(t *testing.T) {
	for seed := range int64(200) {
		r := rand.New(rand.NewSource(seed))
		l := lock.New()
		left := [txs + 1]int{}
		for tx := 1; tx <= txs; tx++ {
			left[tx] = 10
		}
		ended, rounds := 0, 0
		for ended < txs {
			if rounds++; rounds > 10000 {
				t.Fatalf("seed %d: they do not end", seed)
			}
			tx := 1 + r.Intn(txs)
			if left[tx] < 0 || l.Waits(tx) {
				continue
			}
			if left[tx]--; left[tx] < 0 {
				l.Release(tx)
				ended++
				continue
			}
			l.Ask(tx, names()[r.Intn(5)], 1+r.Intn(5), r.Intn(4) == 0, true)
			for c := l.Cycle(tx); len(c) > 0; c = l.Cycle(tx) {
				l.Release(c[0])
			}
			wantWell(t, l)
		}
		if l.Len() != 0 {
			t.Fatalf("seed %d: %d locks are left", seed, l.Len())
		}
	}
}
