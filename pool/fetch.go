package pool

import (
	"girder/api"
	"girder/page"
)

// both is the bytes of a page's place and of its twin, as the disk has them.
type both struct {
	place, twin string
}

// twinOf is where the twin of a page stands.
func twinOf(n api.Page) api.Page { return n + api.MaxPages }

// fetch is a page as the disk has it.
func (p *Pool) fetch(n api.Page) (api.Sheet, api.Errno) {
	b, e := p.read(n)
	if e != api.OK {
		return api.Sheet{}, e
	}
	x, _, e := b.choose(n)
	return x, e
}

// read reads a page's place and its twin.
func (p *Pool) read(n api.Page) (both, api.Errno) {
	place, e := p.disk.Read(n)
	if e != api.OK {
		return both{}, e
	}
	twin, e := p.disk.Read(twinOf(n))
	if e != api.OK {
		return both{}, e
	}
	return both{place: place, twin: twin}, api.OK
}

// choose is the one of the two that counts, as the page n, and whether it is the twin.
func (b both) choose(n api.Page) (api.Sheet, bool, api.Errno) {
	place, placeOK := readable(n, b.place)
	twin, twinOK := readable(n, b.twin)
	switch {
	case placeOK && (!twinOK || givesWay(twin, place)):
		return place, false, api.OK
	case twinOK:
		return twin, true, api.OK
	}
	return api.Sheet{}, false, api.ErrCorrupt
}

// givesWay tells whether a twin that can be read is passed over for the place.
func givesWay(twin, place api.Sheet) bool {
	return blank(twin) || !blank(place) && twin.LSN <= place.LSN
}

// readable is the page n of bytes, and whether they are that page's.
func readable(n api.Page, s string) (api.Sheet, bool) {
	x, e := page.Decode(s)
	if e != api.OK || x.Number != n && x.Number != 0 {
		return api.Sheet{}, false
	}
	// A page that was never written says no number.
	x.Number = n
	return x, true
}

// blank tells whether a page has nothing but its number.
func blank(x api.Sheet) bool { return x.LSN == 0 && page.Same(x, page.Blank(x.Number)) }
