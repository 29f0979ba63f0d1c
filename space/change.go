package space

import "girder/api"

// Take is the first page that is free, of so many, and the change that takes it.
func Take(m api.Sheet, room int) (api.Page, api.Op, api.Errno) {
	if !Is(m) {
		return 0, api.Op{}, api.ErrMap
	}
	for i := range min(room, api.MaxPages) {
		if n := api.Page(i + 1); !Taken(m, n) {
			return n, turn(m, n), api.OK
		}
	}
	return 0, api.Op{}, api.ErrSpace
}

// Give is the change that makes a page free.
func Give(m api.Sheet, n api.Page) (api.Op, api.Errno) {
	if !Is(m) {
		return api.Op{}, api.ErrMap
	}
	if !Taken(m, n) {
		return api.Op{}, api.ErrNone
	}
	return turn(m, n), api.OK
}

// Claim is the change that takes a page that is free.
func Claim(m api.Sheet, n api.Page) (api.Op, api.Errno) {
	if !Is(m) {
		return api.Op{}, api.ErrMap
	}
	if !isPage(n) || Taken(m, n) {
		return api.Op{}, api.ErrNone
	}
	return turn(m, n), api.OK
}

// turn is the change that turns over the bit of a page that may be, in a map.
func turn(m api.Sheet, n api.Page) api.Op {
	at, bit := place(n)
	old := m.Slots[0][at]
	// Both texts are made anew: a piece of the slot would share the caller's memory.
	return api.Op{Kind: api.OpPut, At: at, S: string([]byte{old ^ bit}), Old: string([]byte{old})}
}
