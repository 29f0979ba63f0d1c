package disk

import (
	"strings"

	"girder/api"
)

// write is a write of a page; of the mark, if the page is 0.
type write struct {
	page api.Page
	s    string
	mark uint64
}

// Write writes a page.
func (d *Disk) Write(p api.Page, s string) api.Errno {
	if d.Dead() {
		return api.ErrDead
	}
	if len(s) != api.PageBytes {
		return api.ErrArg
	}
	if e := d.check(p); e != api.OK {
		return e
	}
	if !d.powered() {
		return api.ErrDead
	}
	// A copy: s may be a piece of a far longer text, which would be kept with it.
	s = strings.Clone(s)
	d.loose = append(d.loose, write{page: p, s: s})
	d.fresh[p] = s
	return api.OK
}

// Read is a page's bytes.
func (d *Disk) Read(p api.Page) (string, api.Errno) {
	if d.Dead() {
		return "", api.ErrDead
	}
	if e := d.check(p); e != api.OK {
		return "", e
	}
	s, ok := d.fresh[p]
	if !ok {
		s = d.sureBytes(p)
	}
	return strings.Clone(s), api.OK
}

// SetMark writes the mark.
func (d *Disk) SetMark(n uint64) api.Errno {
	if d.Dead() || !d.powered() {
		return api.ErrDead
	}
	d.loose = append(d.loose, write{mark: n})
	d.mark = n
	return api.OK
}

// Mark is the mark.
func (d *Disk) Mark() (uint64, api.Errno) {
	if d.Dead() {
		return 0, api.ErrDead
	}
	return d.mark, api.OK
}

// Sync makes all writes sure.
func (d *Disk) Sync() api.Errno {
	if d.Dead() || !d.powered() {
		return api.ErrDead
	}
	for _, w := range d.loose {
		d.keep(w)
	}
	d.settle()
	return api.OK
}

// check tells whether a page may be, and whether there is room for it.
func (d *Disk) check(p api.Page) api.Errno {
	if p < 1 || p > 2*api.MaxPages {
		return api.ErrArg
	}
	if int(p-1)%api.MaxPages >= d.room {
		return api.ErrSpace
	}
	return api.OK
}

// sureBytes is a page as a fall can't change it.
func (d *Disk) sureBytes(p api.Page) string {
	if s, ok := d.sure[p]; ok {
		return s
	}
	return strings.Repeat("\x00", api.PageBytes)
}

// keep makes a write sure.
func (d *Disk) keep(w write) {
	if w.page == 0 {
		d.sureMark = w.mark
		return
	}
	d.sure[w.page] = w.s
}

// keepPart makes a torn write sure: a mark is too short to stay in part.
func (d *Disk) keepPart(w write, long int) {
	if w.page == 0 {
		return
	}
	long = min(max(long, 0), api.PageBytes)
	d.sure[w.page] = w.s[:long] + d.sureBytes(w.page)[long:]
}

// settle forgets the loose writes: what is sure is all that there is.
func (d *Disk) settle() {
	d.loose = nil
	d.fresh = map[api.Page]string{}
	d.mark = d.sureMark
}
