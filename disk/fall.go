package disk

import (
	"cmp"
	"slices"

	"girder/api"
)

// Plan lays where the power fails.
func (d *Disk) Plan(l []api.Fall) {
	if d == nil {
		return
	}
	d.plan = nil
	for _, f := range l {
		// Numbers of calls never come again: a fall at an earlier one can't strike.
		if f.At >= d.calls {
			d.plan = append(d.plan, f)
		}
	}
	// Stable: of several at one call the first of the plan comes first.
	slices.SortStableFunc(d.plan, func(a, b api.Fall) int { return cmp.Compare(a.At, b.At) })
}

// Crash lets the power fail.
func (d *Disk) Crash(f api.Fall) {
	if d.Dead() {
		return
	}
	d.fail(f)
}

// powered counts a call that nothing else can hinder; false: the power failed ahead of it.
func (d *Disk) powered() bool {
	if len(d.plan) > 0 && d.plan[0].At == d.calls {
		f := d.plan[0]
		d.plan = d.plan[1:]
		d.fail(f)
		return false
	}
	d.calls++
	return true
}

// fail turns the power off: of what is loose that stays which the fall says.
func (d *Disk) fail(f api.Fall) {
	for i, w := range d.loose {
		switch {
		case i+1 == f.Torn:
			d.keepPart(w, f.Bytes)
		case f.Keep>>(i%64)&1 == 1:
			d.keep(w)
		}
	}
	d.settle()
	d.cut(d.sureLog + min(max(f.Log, 0), len(d.log)-d.sureLog))
	d.dead = true
}
