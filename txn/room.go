package txn

import (
	"sort"

	"girder/api"
)

// Bytes of the log.
const (
	beginRoom = 128                 // kept when a transaction begins
	undoRoom  = 160                 // kept for a change that can be undone, beside as many as its frame has
	endRoom   = api.FrameBytes + 13 // the frame of a RecCommit, a RecAbort or a RecEnd
)

// debt is how much is needed to take back the change at a place and all ahead of it.
type debt struct {
	at   api.LSN
	room int
}

// owe notes what is needed to take a change back.
func (t *transaction) owe(at api.LSN, room int) {
	if room > 0 {
		t.debts = append(t.debts, debt{at: at, room: t.owes(at) + room})
	}
}

// standing is how many debts are left, when undoing goes on at a place.
func (t *transaction) standing(next api.LSN) int {
	return sort.Search(len(t.debts), func(i int) bool { return t.debts[i].at > next })
}

// owes is how much is needed to take all changes back, when undoing goes on at a place.
func (t *transaction) owes(next api.LSN) int { return t.owed(t.standing(next)) }

// owed is how much the first so many debts are.
func (t *transaction) owed(n int) int {
	if n == 0 {
		return 0
	}
	return t.debts[n-1].room
}

// part is how much a compensation of so many bytes takes of the last debt, when undoing goes on at a place: if that change is not taken back by it wholly, the next one will have the less.
func (t *transaction) part(long int, next api.LSN) int {
	n := t.standing(next)
	if n == 0 || n < len(t.debts) {
		return 0
	}
	return min(long, t.owed(n)-t.owed(n-1))
}

// pay takes so much of the last debt.
func (t *transaction) pay(room int) {
	if room > 0 {
		t.debts[len(t.debts)-1].room -= room
	}
}

// goOn lets undoing go on at a place.
func (t *transaction) goOn(next api.LSN) {
	t.Next = next
	t.debts = t.debts[:t.standing(next)]
}

// wayBack is how much must be kept, so that a transaction in a state, that owes so much, can go back wholly.
func (t *transaction) wayBack(state, owes int) int {
	switch {
	case !t.begun:
		return 0
	case state == api.TxActive:
		return owes + 2*endRoom
	}
	return owes + endRoom
}

// spend puts a record of a transaction, given as bytes, of what is kept for it; so much must be left behind that.
func (m *Manager) spend(t *transaction, s string, left int) (api.LSN, api.Errno) {
	long := len(s) + api.FrameBytes
	if e := m.cover(t, long+left); e != api.OK {
		return 0, e
	}
	at, e := m.log().Spend(s)
	if e != api.OK {
		return 0, e
	}
	t.kept -= min(long, t.kept)
	t.Last = at
	return at, api.OK
}

// cover sees to it that so much is kept for a transaction: one that spends more than it kept would spend what is kept for others, or its own way back.
func (m *Manager) cover(t *transaction, room int) api.Errno {
	short := room - t.kept
	if short <= 0 {
		return api.OK
	}
	e := m.log().Keep(short)
	if e == api.OK {
		t.kept += short
		return api.OK
	}
	// For one that Load laid, room was kept ahead of the crash: it may take what there is.
	if !t.begun && room <= m.log().Room() {
		return api.OK
	}
	return e
}
