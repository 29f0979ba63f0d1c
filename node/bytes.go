package node

import (
	"girder/api"
	"girder/raw"
)

// Bytes of the parts of heads and slots.
const (
	pageLong  = 4 // of a page's number
	slotLong  = 2 // of the number of a slot
	levelLong = 1
	liveLong  = 1
	ridLong   = pageLong + slotLong

	itemLong  = liveLong + ridLong // of an item without its key
	childLong = pageLong + ridLong // of a child without the key where it begins
)

// takeAll is what each slot says.
func takeAll[T any](slots []string, take func(r *raw.Reader) T) ([]T, api.Errno) {
	l := make([]T, len(slots))
	for i, s := range slots {
		r := raw.NewReader(s)
		l[i] = take(r)
		// Whatever the reader met, such a slot stands in no tree.
		if r.End() != api.OK {
			return nil, api.ErrNode
		}
	}
	return l, api.OK
}

// itemBytes is an item as a slot.
func itemBytes(x api.Item) string {
	w := raw.NewWriter()
	w.Bool(x.Live)
	putEntry(w, x.Entry)
	return w.All()
}

// takeItem takes an item that goes on to the end.
func takeItem(r *raw.Reader) api.Item {
	live := r.Bool()
	return api.Item{Entry: takeEntry(r), Live: live}
}

// childBytes is a child as a slot.
func childBytes(c api.Child) string {
	w := raw.NewWriter()
	w.Number(uint64(c.Page), pageLong)
	putEntry(w, c.From)
	return w.All()
}

// takeChild takes a child that goes on to the end.
func takeChild(r *raw.Reader) api.Child {
	n := api.Page(r.Number(pageLong))
	return api.Child{Page: n, From: takeEntry(r)}
}

// putEntry puts an entry; its key comes last, and so needs no length.
func putEntry(w *raw.Writer, e api.Entry) {
	w.Number(uint64(e.RID.Page), pageLong)
	w.Number(uint64(e.RID.Slot), slotLong)
	w.Bytes(e.Key)
}

// takeEntry takes an entry that goes on to the end.
func takeEntry(r *raw.Reader) api.Entry {
	rid := api.RID{Page: api.Page(r.Number(pageLong)), Slot: int(r.Number(slotLong))}
	return api.Entry{Key: r.Bytes(r.Left()), RID: rid}
}
