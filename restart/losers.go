package restart

import (
	"girder/api"
	"girder/undo"
)

// pending is the record of a loser that is undone next.
type pending struct {
	tx int
	at api.LSN // 0: there is none any more
	r  api.Rec
}

// takeBackLosers takes back all that losers did, and ends them.
func (u *rising) takeBackLosers() api.Errno {
	l, e := u.pendings()
	if e != api.OK {
		return e
	}
	// By places over all losers, not one loser behind the other: an entry is looked for in a tree that is whole again only when all that was done to it later is taken back.
	for i, more := latest(l); more; i, more = latest(l) {
		if l[i], e = u.takeBack(l[i]); e != api.OK {
			return e
		}
	}
	for _, x := range u.m.All() {
		if e := undo.Abort(u.m, x.Tx); e != api.OK {
			return e
		}
	}
	return api.OK
}

// pendings is what is undone next of each that is under way.
func (u *rising) pendings() ([]pending, api.Errno) {
	var l []pending
	for _, x := range u.m.All() {
		p, e := u.next(x.Tx)
		if e != api.OK {
			return nil, e
		}
		l = append(l, p)
	}
	return l, api.OK
}

// next is what is undone next of a transaction.
func (u *rising) next(tx int) (pending, api.Errno) {
	r, at, e := u.m.Next(tx)
	return pending{tx: tx, at: at, r: r}, e
}

// latest is which one has the greatest place; false: nothing is to be undone any more.
func latest(l []pending) (int, bool) {
	last, most := 0, api.LSN(0)
	for i, p := range l {
		if p.at > most {
			last, most = i, p.at
		}
	}
	return last, most > 0
}

// takeBack takes a record back: what is undone next of its transaction then.
func (u *rising) takeBack(p pending) (pending, api.Errno) {
	if e := undo.One(u.m, p.tx, p.r); e != api.OK {
		return pending{}, e
	}
	u.Undone++
	return u.next(p.tx)
}
