package index

import (
	"girder/api"
	"girder/pool"
	"girder/tree"
)

// between is the items whose keys are from one to another one, in order, and the name of the lock of what stands behind them.
func between(p *pool.Pool, table int, root api.Page, low, high string) ([]api.Item, api.Name, api.Errno) {
	var items []api.Item
	// No place is ahead of the zero one, so that none of low's own items is passed over.
	x, is, e := tree.Seek(p, root, api.Entry{Key: low})
	for is && x.Entry.Key <= high {
		items = append(items, x)
		x, is, e = tree.Behind(p, root, x.Entry)
	}
	if e != api.OK {
		return nil, api.Name{}, e
	}
	return items, nameOf(table, root, x, is), api.OK
}

// others is which locks of the items with an entry's key at other places are asked for, and whether one of them is live.
func others(p *pool.Pool, table int, root api.Page, en api.Entry) ([]api.Need, bool, api.Errno) {
	items, _, e := between(p, table, root, en.Key, en.Key)
	if e != api.OK {
		return nil, false, e
	}
	var needs []api.Need
	twice := false
	for _, x := range items {
		if x.Entry.RID != en.RID {
			needs = append(needs, toRead(Row(table, x.Entry.RID)))
			twice = twice || x.Live
		}
	}
	return needs, twice, api.OK
}

// nameOf is the name of the lock of an item, or of the end, if there is none.
func nameOf(table int, root api.Page, x api.Item, is bool) api.Name {
	if !is {
		return End(root)
	}
	return Row(table, x.Entry.RID)
}

// toRead is the need of one who reads: it is kept, so that what was read stays.
func toRead(n api.Name) api.Need {
	return api.Need{Name: n, Mode: api.ModeS}
}
