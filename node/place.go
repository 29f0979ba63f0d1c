package node

import (
	"slices"

	"girder/api"
	"girder/key"
	"girder/page"
)

// lengthLong is the bytes that a page needs for a slot beside those of the slot.
const lengthLong = 2

// Find is the place of an entry among items, or where it would stand.
func Find(l []api.Item, e api.Entry) (int, bool) {
	// What stands there is told also where items do not rise, so that nothing is put in twice.
	if at := slices.IndexFunc(l, func(x api.Item) bool { return x.Entry == e }); at >= 0 {
		return at, true
	}
	if at := slices.IndexFunc(l, func(x api.Item) bool { return key.Entries(x.Entry, e) > 0 }); at >= 0 {
		return at, false
	}
	return len(l), false
}

// Down is the place of the child in which an entry stands, or would stand.
func Down(l []api.Child, e api.Entry) int {
	at := len(l) - 1
	for at > 0 && key.Entries(l[at].From, e) > 0 {
		at--
	}
	return max(at, 0)
}

// Full tells whether a page has no room for the longest entry, or no slot.
func Full(p api.Sheet) bool {
	return len(p.Slots) >= api.MaxSlots || page.Room(p) < most(p.Kind)
}

// most is the bytes that the longest slot of a page of a kind needs.
func most(kind int) int {
	if kind == api.KindInner {
		return lengthLong + childLong + api.MaxKey
	}
	return lengthLong + itemLong + api.MaxKey
}

// Half is where a page is cut in two: so that both halves have about as many bytes.
func Half(p api.Sheet) int {
	all := 0
	for _, s := range p.Slots {
		all += len(s)
	}
	upTo := 0
	at := slices.IndexFunc(p.Slots, func(s string) bool {
		upTo += len(s)
		return 2*upTo >= all
	})
	// Both halves have slots, where there are two; without slots there is no last place.
	return max(min(max(at, 1), len(p.Slots)-1), 0)
}
