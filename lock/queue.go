package lock

import "slices"

// place is one transaction in a lock's queue.
type place struct {
	tx      int
	has     int  // its mode; 0: it has nothing
	wants   int  // the mode that it waits for; 0: it does not wait
	instant bool // it will have nothing by what it waits for
}

// granted is the same one, when it has what it wanted.
func (p place) granted() place {
	if p.instant {
		return p.stays()
	}
	return place{tx: p.tx, has: p.wants}
}

// stays is the same one with what it has alone, when it waits no more.
func (p place) stays() place { return place{tx: p.tx, has: p.has} }

// queue is those at a lock, in the order in which they came to it. As nobody who comes passes one who waits, those that have the lock stand ahead of all that have nothing of it: so the queue's order lets those that convert go first.
type queue []place

// of is where a transaction stands; one that does not would come to the end.
func (q queue) of(tx int) int {
	for i, p := range q {
		if p.tx == tx {
			return i
		}
	}
	return len(q)
}

// one is a transaction in the queue, with nothing, if it is not there.
func (q queue) one(tx int) place {
	if at := q.of(tx); at < len(q) {
		return q[at]
	}
	return place{tx: tx}
}

// with is the queue with one as it is told. Who neither has the lock nor waits for it leaves.
func (q queue) with(p place) queue {
	at := q.of(p.tx)
	switch {
	case p.has == 0 && p.wants == 0:
		return slices.Delete(q, at, min(at+1, len(q)))
	case at == len(q):
		return append(q, p)
	}
	q[at] = p
	return q
}

// blockers is those that block one who wants a mode there, whether it waits already or is about to.
func (q queue) blockers(p place) []int {
	at := q.of(p.tx)
	var who []int
	for i, o := range q {
		if i == at {
			continue
		}
		keeps := o.has != 0 && !Compatible(o.has, p.wants)
		goesFirst := o.wants != 0 && i < at
		if keeps || goesFirst {
			who = append(who, o.tx)
		}
	}
	slices.Sort(who)
	return who
}

// waiting is those that wait, in the order of their turns.
func (q queue) waiting() []place {
	var l []place
	for _, p := range q {
		if p.wants != 0 {
			l = append(l, p)
		}
	}
	return l
}
