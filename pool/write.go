package pool

import (
	"girder/api"
	"girder/page"
)

// Write writes a page out, if it is dirty, behind the log.
func (p *Pool) Write(n api.Page) api.Errno {
	if p == nil {
		return api.ErrArg
	}
	f := p.frames[n]
	if f.since == 0 {
		return api.OK
	}
	if e := p.writeOut(f.sheet); e != api.OK {
		return e
	}
	f.since = 0
	p.frames[n] = f
	p.written++
	return api.OK
}

// WriteAll writes all dirty pages out.
func (p *Pool) WriteAll() api.Errno {
	if p == nil {
		return api.ErrArg
	}
	for _, n := range p.Numbers() {
		if e := p.Write(n); e != api.OK {
			return e
		}
	}
	return api.OK
}

// writeOut writes a page to its twin and to its place, behind the log.
func (p *Pool) writeOut(x api.Sheet) api.Errno {
	s, e := page.Encode(x)
	if e != api.OK {
		return e
	}
	// Ahead of the flush: when the disk has no room for the page, the log stays as it is, too.
	first, second, e := p.order(x.Number)
	if e != api.OK {
		return e
	}
	if e := p.log.Flush(x.LSN); e != api.OK {
		return e
	}
	if e := p.writeSure(first, s); e != api.OK {
		return e
	}
	return p.writeSure(second, s)
}

// order is which of a page's two places is written first, and which second: the twin first, unless an earlier fall left it as the one that counts. What counts comes last: the fall that tears the first write would leave nothing else.
func (p *Pool) order(n api.Page) (api.Page, api.Page, api.Errno) {
	b, e := p.read(n)
	if e != api.OK {
		return 0, 0, e
	}
	if b.place != b.twin {
		if _, twins, _ := b.choose(n); twins {
			return n, twinOf(n), api.OK
		}
	}
	return twinOf(n), n, api.OK
}

// writeSure writes one of a page's places, and syncs it.
func (p *Pool) writeSure(at api.Page, s string) api.Errno {
	if e := p.disk.Write(at, s); e != api.OK {
		return e
	}
	return p.disk.Sync()
}
