package node

import (
	"strings"

	"girder/api"
)

// PutItem is the change that puts an item into a leaf.
func PutItem(p api.Sheet, x api.Item) (api.Op, api.Errno) {
	l, e := Leaf(p)
	if e != api.OK {
		return api.Op{}, e
	}
	at, stands := Find(l, x.Entry)
	if stands {
		return api.Op{}, api.ErrTwice
	}
	return api.Op{Kind: api.OpInsert, At: at, S: itemBytes(x)}, api.OK
}

// Turn is the change that makes an item live, or a ghost.
func Turn(p api.Sheet, en api.Entry, live bool) (api.Op, api.Errno) {
	l, e := Leaf(p)
	if e != api.OK {
		return api.Op{}, e
	}
	at, stands := Find(l, en)
	if !stands {
		return api.Op{}, api.ErrNone
	}
	return set(p, at, itemBytes(api.Item{Entry: en, Live: live})), api.OK
}

// Take is the change that takes a slot out.
func Take(p api.Sheet, at int) (api.Op, api.Errno) {
	if at < 0 || at >= len(p.Slots) {
		return api.Op{}, api.ErrNone
	}
	return api.Op{Kind: api.OpRemove, At: at, Old: strings.Clone(p.Slots[at])}, api.OK
}

// PutChild is the change that puts a child in at a place.
func PutChild(at int, c api.Child) api.Op {
	return api.Op{Kind: api.OpInsert, At: at, S: childBytes(c)}
}

// SetFrom is the change that lays where a child begins.
func SetFrom(p api.Sheet, at int, from api.Entry) (api.Op, api.Errno) {
	l, e := Inner(p)
	if e != api.OK {
		return api.Op{}, e
	}
	if at < 0 || at >= len(l) {
		return api.Op{}, api.ErrNone
	}
	return set(p, at, childBytes(api.Child{Page: l[at].Page, From: from})), api.OK
}

// set is the change that lays s in a slot that is there.
func set(p api.Sheet, at int, s string) api.Op {
	return api.Op{Kind: api.OpSet, At: at, S: s, Old: strings.Clone(p.Slots[at])}
}
