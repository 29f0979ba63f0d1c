package page

import (
	"strings"

	"girder/api"
	"girder/raw"
)

// Encode is a page's bytes.
func Encode(p api.Sheet) (string, api.Errno) {
	if p.Kind < 0 || p.Kind > maxKind || len(p.Head) > api.MaxHead || len(p.Slots) > api.MaxSlots {
		return "", api.ErrArg
	}
	room := Room(p)
	if room < 0 {
		return "", api.ErrFull
	}
	w := raw.NewWriter()
	w.Number(uint64(p.LSN), lsnLong)
	w.Number(uint64(p.Number), numberLong)
	w.Number(uint64(p.Kind), kindLong)
	w.Number(uint64(len(p.Head)), headLong)
	w.Bytes(p.Head)
	putSlots(w, p.Slots)
	w.Bytes(strings.Repeat("\x00", room))
	w.Number(uint64(p.LSN), lsnLong)
	rest := w.All()
	return raw.Put(uint64(raw.Sum(rest)), sumLong) + rest, api.OK
}

// putSlots puts how many slots there are, their lengths and their bytes.
func putSlots(w *raw.Writer, slots []string) {
	w.Number(uint64(len(slots)), countLong)
	for _, s := range slots {
		w.Number(uint64(len(s)), slotLong)
	}
	for _, s := range slots {
		w.Bytes(s)
	}
}

// Decode is the page of bytes.
func Decode(s string) (api.Sheet, api.Errno) {
	if len(s) < api.PageBytes {
		return api.Sheet{}, api.ErrCut
	}
	if len(s) > api.PageBytes {
		return api.Sheet{}, api.ErrMore
	}
	if zeros(s) {
		// A page that was never written: its sum would be wrong, and it is no fault.
		return Blank(0), api.OK
	}
	if s[tailAt:] != s[sumLong:sumLong+lsnLong] {
		return api.Sheet{}, api.ErrTorn
	}
	if s[:sumLong] != raw.Put(uint64(raw.Sum(s[sumLong:])), sumLong) {
		return api.Sheet{}, api.ErrSum
	}
	return parse(s[sumLong:tailAt])
}

// parse is the page of the bytes between the sum and the LSN at the end.
func parse(s string) (api.Sheet, api.Errno) {
	r := raw.NewReader(s)
	var p api.Sheet
	p.LSN = api.LSN(r.Number(lsnLong))
	p.Number = api.Page(r.Number(numberLong))
	p.Kind = int(r.Number(kindLong))
	p.Head = r.Bytes(takeCount(r, headLong, api.MaxHead))
	p.Slots = takeSlots(r)
	// Whatever the reader met, these are the bytes of no page.
	if r.Err() != api.OK || !zeros(r.Bytes(r.Left())) {
		return api.Sheet{}, api.ErrForm
	}
	return p, api.OK
}

// takeCount takes a number that may be at most most.
func takeCount(r *raw.Reader, long, most int) int {
	n := int(r.Number(long))
	if n > most {
		r.Fail(api.ErrForm)
		return 0
	}
	return n
}

// takeSlots takes slots as putSlots puts them.
func takeSlots(r *raw.Reader) []string {
	longs := make([]int, takeCount(r, countLong, api.MaxSlots))
	for i := range longs {
		longs[i] = int(r.Number(slotLong))
	}
	slots := make([]string, len(longs))
	for i, long := range longs {
		slots[i] = r.Bytes(long)
	}
	return slots
}

// zeros tells whether all bytes are zeros.
func zeros(s string) bool {
	for i := range len(s) {
		if s[i] != 0 {
			return false
		}
	}
	return true
}
