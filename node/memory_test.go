package node_test

import (
	"slices"
	"testing"
	"unsafe"

	"girder/api"
	"girder/node"
)

// loose is a text, and the memory in which it stands.
func loose(s string) (string, []byte) {
	b := []byte(s)
	return unsafe.String(&b[0], len(b)), b
}

// loosePage is a page whose texts all stand in memory that can be spoiled.
func loosePage(p api.Sheet) (api.Sheet, func()) {
	var all [][]byte
	text, b := loose(p.Head)
	p.Head, all = text, append(all, b)
	slots := make([]string, len(p.Slots))
	for i, s := range p.Slots {
		slots[i], b = loose(s)
		all = append(all, b)
	}
	p.Slots = slots
	return p, func() {
		for _, b := range all {
			for i := range b {
				b[i] = 'z'
			}
		}
		clear(slots)
	}
}

// R4: what was told of a leaf stays when the memory of what was handed in is used for something else.
func TestNothingOfALeafIsKept(t *testing.T) {
	l := []api.Item{live(entry("aa", 1, 2)), ghost(entry("cc", 3, 4))}
	whole := leafOf(7, l...)
	p, spoil := loosePage(whole)
	k, b := loose("bb")
	items, _ := node.Leaf(p)
	link := node.Link(p, 9)
	putOp, _ := node.PutItem(p, live(at(k)))
	take, _ := node.Take(p, 1)
	aa, c := loose("aa")
	turn, _ := node.Turn(p, entry(aa, 1, 2), false)
	spoil()
	copy(b, "zz")
	copy(c, "zz")
	if !slices.Equal(items, l) {
		t.Errorf("Leaf: %+v", items)
	}
	wantOp(t, "Link", link, api.OK, api.Op{Kind: api.OpHead, S: "\x09\x00\x00\x00", Old: "\x07\x00\x00\x00"})
	wantOp(t, "PutItem", putOp, api.OK, api.Op{Kind: api.OpInsert, At: 1, S: itemSlot(live(at("bb")))})
	wantOp(t, "Take", take, api.OK, api.Op{Kind: api.OpRemove, At: 1, Old: whole.Slots[1]})
	wantOp(t, "Turn", turn, api.OK, api.Op{Kind: api.OpSet, S: itemSlot(ghost(entry("aa", 1, 2))), Old: whole.Slots[0]})
}

// R4: likewise of an inner page.
func TestNothingOfAnInnerPageIsKept(t *testing.T) {
	l := []api.Child{child(1, entry("aa", 1, 2)), child(2, entry("cc", 3, 4))}
	whole := innerOf(1, l...)
	p, spoil := loosePage(whole)
	k, b := loose("bb")
	children, _ := node.Inner(p)
	putOp := node.PutChild(1, child(9, at(k)))
	take, _ := node.Take(p, 0)
	set, _ := node.SetFrom(p, 1, at(k))
	spoil()
	copy(b, "zz")
	if !slices.Equal(children, l) {
		t.Errorf("Inner: %+v", children)
	}
	wantOp(t, "PutChild", putOp, api.OK, api.Op{Kind: api.OpInsert, At: 1, S: childSlot(child(9, at("bb")))})
	wantOp(t, "Take", take, api.OK, api.Op{Kind: api.OpRemove, At: 0, Old: whole.Slots[0]})
	wantOp(t, "SetFrom", set, api.OK, api.Op{Kind: api.OpSet, At: 1, S: childSlot(child(2, at("bb"))), Old: whole.Slots[1]})
}

// R4: two answers share nothing, their spare room neither.
func TestAnswersShareNothing(t *testing.T) {
	l := []api.Item{live(at("aa")), ghost(at("bb")), live(at("cc"))}
	p := leafOf(7, l...)
	a, _ := node.Leaf(p)
	b, _ := node.Leaf(p)
	for i := range a[:cap(a)] {
		a[:cap(a)][i] = ghost(at("zz"))
	}
	if !slices.Equal(b, l) {
		t.Errorf("Leaf: %+v", b)
	}
	c, _ := node.Leaf(p)
	if unsafe.StringData(b[0].Entry.Key) == unsafe.StringData(c[0].Entry.Key) {
		t.Error("two answers of Leaf share a key's memory")
	}
	kids := []api.Child{child(1, at("")), child(2, at("bb"))}
	q := innerOf(1, kids...)
	d, _ := node.Inner(q)
	f, _ := node.Inner(q)
	for i := range d[:cap(d)] {
		d[:cap(d)][i] = child(9, at("zz"))
	}
	if !slices.Equal(f, kids) {
		t.Errorf("Inner: %+v", f)
	}
}

// R4: what is handed in is not changed, what lies in its spare room neither.
func TestArgumentsStay(t *testing.T) {
	for _, p := range []api.Sheet{
		leafOf(7, live(at("aa")), ghost(at("bb")), live(at("cc"))),
		innerOf(1, child(1, at("")), child(2, at("bb")), child(3, at("cc"))),
		{Kind: api.KindHeap, Slots: []string{"a", "b", "c"}},
	} {
		room := append(slices.Clone(p.Slots), "spare", "more")
		want := slices.Clone(room)
		p.Slots = room[:3]
		node.Leaf(p)
		node.Inner(p)
		node.Next(p)
		node.Level(p)
		node.Link(p, 8)
		node.PutItem(p, live(at("b")))
		node.PutItem(p, live(at("bb")))
		node.Turn(p, at("aa"), false)
		node.Take(p, 0)
		node.Take(p, 3)
		node.SetFrom(p, 2, at("d"))
		node.SetFrom(p, 3, at("d"))
		node.Full(p)
		node.Half(p)
		if !slices.Equal(room, want) {
			t.Errorf("changed: %q", room)
		}
	}
	items := []api.Item{live(at("a")), ghost(at("c")), live(at("e")), live(at("b"))}
	kids := []api.Child{child(1, at("")), child(2, at("c")), child(3, at("e")), child(4, at("b"))}
	wantItems, wantKids := slices.Clone(items), slices.Clone(kids)
	for _, k := range []string{"", "a", "b", "c", "d", "e", "f"} {
		node.Find(items[:3], at(k))
		node.Down(kids[:3], at(k))
	}
	if !slices.Equal(items, wantItems) || !slices.Equal(kids, wantKids) {
		t.Error("changed:", items, kids)
	}
}
