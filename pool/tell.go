package pool

import (
	"slices"

	"girder/api"
	"girder/disk"
	"girder/wal"
)

// Numbers is the pages in frames, rising.
func (p *Pool) Numbers() []api.Page {
	if p == nil {
		return nil
	}
	in := make([]api.Page, 0, len(p.frames))
	for n := range p.frames {
		in = append(in, n)
	}
	slices.Sort(in)
	return in
}

// Dirty is the pages that were changed and not written.
func (p *Pool) Dirty() []api.Dirty {
	var dirty []api.Dirty
	for _, n := range p.Numbers() {
		if since := p.frames[n].since; since != 0 {
			dirty = append(dirty, api.Dirty{Page: n, LSN: since})
		}
	}
	return dirty
}

// Has tells whether a page is in a frame.
func (p *Pool) Has(n api.Page) bool {
	if p == nil {
		return false
	}
	_, here := p.frames[n]
	return here
}

// Counts is how many pages were read, how many written.
func (p *Pool) Counts() (int, int) {
	if p == nil {
		return 0, 0
	}
	return p.fetched, p.written
}

// Log is the log.
func (p *Pool) Log() *wal.Log {
	if p == nil {
		return nil
	}
	return p.log
}

// Disk is the disk.
func (p *Pool) Disk() *disk.Disk {
	if p == nil {
		return nil
	}
	return p.disk
}
