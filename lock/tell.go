package lock

import (
	"cmp"
	"slices"

	"girder/api"
)

// Waits tells whether a transaction waits.
func (t *Table) Waits(tx int) bool {
	_, waits := t.For(tx)
	return waits
}

// For is what a transaction waits for.
func (t *Table) For(tx int) (api.Name, bool) {
	if t == nil {
		return api.Name{}, false
	}
	n, waits := t.waits[tx]
	return n, waits
}

// Has is the mode that a transaction has.
func (t *Table) Has(tx int, n api.Name) int {
	if t == nil {
		return 0
	}
	return t.queues[n].one(tx).has
}

// Free tells whether nobody but a transaction has a lock, or waits for it.
func (t *Table) Free(tx int, n api.Name) bool {
	if t == nil {
		return true
	}
	for _, p := range t.queues[n] {
		if p.tx != tx {
			return false
		}
	}
	return true
}

// Held is what a transaction has, in order.
func (t *Table) Held(tx int) []api.Held {
	if t == nil {
		return nil
	}
	var l []api.Held
	for _, n := range t.names(tx) {
		if m := t.Has(tx, n); m != 0 {
			l = append(l, api.Held{Name: n, Mode: m})
		}
	}
	return l
}

// names is all locks in whose queues a transaction is, in their order.
func (t *Table) names(tx int) []api.Name {
	var l []api.Name
	for n, q := range t.queues {
		if q.of(tx) < len(q) {
			l = append(l, n)
		}
	}
	slices.SortFunc(l, byName)
	return l
}

func byName(a, b api.Name) int {
	return cmp.Or(
		cmp.Compare(a.Kind, b.Kind),
		cmp.Compare(a.Of, b.Of),
		cmp.Compare(a.RID.Page, b.RID.Page),
		cmp.Compare(a.RID.Slot, b.RID.Slot),
	)
}

// Len is how many locks somebody has or waits for.
func (t *Table) Len() int {
	if t == nil {
		return 0
	}
	return len(t.queues)
}

// Blockers is those for whom a transaction waits, rising.
func (t *Table) Blockers(tx int) []int {
	n, waits := t.For(tx)
	if !waits {
		return nil
	}
	q := t.queues[n]
	return q.blockers(q.one(tx))
}

// Cycle is a cycle of those that wait for one another, with the one with the greatest number first; none: there is none.
func (t *Table) Cycle(tx int) []int {
	way := []int{tx}
	been := map[int]struct{}{}
	for len(way) > 0 {
		next := t.firstNew(way[len(way)-1], been)
		switch next {
		case 0:
			way = way[:len(way)-1]
		case tx:
			slices.Sort(way)
			slices.Reverse(way)
			return way
		default:
			been[next] = struct{}{}
			way = append(way, next)
		}
	}
	return nil
}

// firstNew is the least of a transaction's blockers to which one has not been; 0: none.
func (t *Table) firstNew(tx int, been map[int]struct{}) int {
	for _, b := range t.Blockers(tx) {
		if _, old := been[b]; !old {
			return b
		}
	}
	return 0
}
