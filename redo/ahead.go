package redo

import (
	"girder/api"
	"girder/pool"
)

// ahead is pages as they will be, while those of the pool are as they were.
type ahead struct {
	held  *pool.Pool // what it has in frames is newer than what the disk has
	read  *pool.Pool // the others: to get them from held would let pages leave it
	pages map[api.Page]api.Sheet
}

// foresee tells which error repeating will come to, if the power stays.
func foresee(p *pool.Pool, l []placed) api.Errno {
	if len(l) == 0 {
		return api.OK
	}
	read, e := pool.New(p.Disk(), p.Log(), api.MaxFrames)
	if e != api.OK {
		return e
	}
	a := ahead{held: p, read: read, pages: map[api.Page]api.Sheet{}}
	for _, x := range l {
		if e := a.one(x); e != api.OK {
			return e
		}
	}
	return api.OK
}

// one does a change to the page that will be.
func (a ahead) one(x placed) api.Errno {
	n := x.r.Page
	was, e := a.get(n)
	if e != api.OK {
		return e
	}
	is, _, e := repeat(was, x.at, x.r)
	if e != api.OK {
		return e
	}
	a.pages[n] = is
	return api.OK
}

// get is a page behind the changes so far.
func (a ahead) get(n api.Page) (api.Sheet, api.Errno) {
	if x, known := a.pages[n]; known {
		return x, api.OK
	}
	if a.held.Has(n) {
		return a.held.Get(n)
	}
	return a.read.Get(n)
}
