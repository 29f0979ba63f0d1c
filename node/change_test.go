package node_test

import (
	"math"
	"strings"
	"testing"

	"girder/api"
	"girder/node"
	"girder/page"
)

// put is a leaf with an item more.
func put(t *testing.T, p api.Sheet, x api.Item) api.Sheet {
	t.Helper()
	op, e := node.PutItem(p, x)
	if e != api.OK {
		t.Fatalf("PutItem of %+v: %d", x, e)
	}
	return done(t, p, op)
}

// orders is all orders of so many things.
func orders(n int) [][]int {
	if n == 0 {
		return [][]int{nil}
	}
	var all [][]int
	for _, l := range orders(n - 1) {
		for i := range n {
			one := append(append(append([]int{}, l[:i]...), n-1), l[i:]...)
			all = append(all, one)
		}
	}
	return all
}

// 12.2: the change, its bytes laid by hand.
func TestPutItemBytes(t *testing.T) {
	op, e := node.PutItem(leafOf(7), live(entry("key", 0x04030201, 0x0605)))
	wantOp(t, "live", op, e, api.Op{Kind: api.OpInsert, At: 0, S: "\x01\x01\x02\x03\x04\x05\x06key"})
	op, e = node.PutItem(leafOf(7, live(at("a"))), ghost(entry("b", 258, 1)))
	wantOp(t, "ghost", op, e, api.Op{Kind: api.OpInsert, At: 1, S: "\x00\x02\x01\x00\x00\x01\x00b"})
	op, e = node.PutItem(leafOf(7, live(at("a"))), ghost(at("")))
	wantOp(t, "zero", op, e, api.Op{Kind: api.OpInsert, At: 0, S: "\x00\x00\x00\x00\x00\x00\x00"})
	for _, en := range edges() {
		op, e := node.PutItem(leafOf(0), live(en))
		wantOp(t, "edge", op, e, api.Op{Kind: api.OpInsert, At: 0, S: itemSlot(live(en))})
	}
}

// 12.2: whatever the order, the items rise; keys first, then places.
func TestPutItemInAnyOrder(t *testing.T) {
	want := []api.Item{live(at("")), live(entry("a", 1, 9)), ghost(entry("a", 2, 0)), live(entry("a", 2, 1)), ghost(entry("a\x00", 0, 0)), live(entry("b", 0, 0))}
	for _, order := range orders(len(want)) {
		p := leafOf(7)
		for _, i := range order {
			p = put(t, p, want[i])
		}
		wantLeaf(t, "put in", p, want...)
		if node.Next(p) != 7 {
			t.Errorf("Next: %d", node.Next(p))
		}
	}
}

// 12.2: twice the same, whether it is live or a ghost there, or would be.
func TestPutItemTwice(t *testing.T) {
	l := []api.Item{live(entry("a", 1, 1)), ghost(entry("a", 1, 2)), ghost(at("b")), live(at("c"))}
	p := leafOf(7, l...)
	for _, x := range l {
		op, e := node.PutItem(p, live(x.Entry))
		wantNoOp(t, "live", op, e, api.ErrTwice)
		op, e = node.PutItem(p, ghost(x.Entry))
		wantNoOp(t, "ghost", op, e, api.ErrTwice)
	}
	for i, en := range []api.Entry{entry("a", 1, 0), entry("a", 1, 3), entry("b", 0, 1), entry("c", 1, 0)} {
		op, e := node.PutItem(p, live(en))
		wantOp(t, "another place", op, e, api.Op{Kind: api.OpInsert, At: []int{0, 2, 3, 4}[i], S: itemSlot(live(en))})
	}
	// It stands there also where items do not rise.
	for _, x := range l {
		op, e := node.PutItem(leafOf(7, l[3], l[1], l[2], l[0]), x)
		wantNoOp(t, "falling", op, e, api.ErrTwice)
	}
}

// 12.2: PutItem tells the change; whether there is room is told by the page.
func TestPutItemIntoAFullPage(t *testing.T) {
	p := leafOf(7, live(at("a")))
	p.Slots = append(p.Slots, itemSlot(live(at(keyOf(page.Room(p)-9)))))
	op, e := node.PutItem(p, live(at("b")))
	wantOp(t, "full", op, e, api.Op{Kind: api.OpInsert, At: 1, S: itemSlot(live(at("b")))})
	if _, e := page.Apply(p, op, 1); e != api.ErrFull {
		t.Errorf("done to a full page: %d", e)
	}
}

// 12.2: there and back, at each place, and what is so already.
func TestTurn(t *testing.T) {
	l := []api.Item{live(entry("a", 1, 1)), ghost(entry("a", 1, 2)), live(at("b")), ghost(entry(keyOf(64), 0x04030201, 65535))}
	p := leafOf(7, l...)
	for i, x := range l {
		for _, alive := range []bool{true, false} {
			op, e := node.Turn(p, x.Entry, alive)
			now := api.Item{Entry: x.Entry, Live: alive}
			wantOp(t, "Turn", op, e, api.Op{Kind: api.OpSet, At: i, S: itemSlot(now), Old: itemSlot(x)})
			q := done(t, p, op)
			want := append([]api.Item{}, l...)
			want[i] = now
			wantLeaf(t, "turned", q, want...)
			if q.Head != p.Head || q.Kind != p.Kind {
				t.Errorf("Turn: %#v", q)
			}
			op, e = node.Turn(q, x.Entry, x.Live)
			wantOp(t, "back", op, e, api.Op{Kind: api.OpSet, At: i, S: itemSlot(x), Old: itemSlot(now)})
			if !page.Same(done(t, q, op), p) {
				t.Error("it is not back")
			}
		}
	}
	op, e := node.Turn(leafOf(0, live(entry("key", 0x04030201, 0x0605))), entry("key", 0x04030201, 0x0605), false)
	wantOp(t, "by hand", op, e, api.Op{Kind: api.OpSet, S: "\x00\x01\x02\x03\x04\x05\x06key", Old: "\x01\x01\x02\x03\x04\x05\x06key"})
}

// 12.2: what is not there.
func TestTurnOfNone(t *testing.T) {
	p := leafOf(7, live(entry("b", 1, 1)), ghost(entry("b", 1, 2)))
	for _, en := range []api.Entry{at(""), at("a"), at("b"), entry("b", 1, 0), entry("b", 1, 3), entry("b", 2, 1), entry("b\x00", 1, 1), at("c"), entry("b", 1, 1+65536), entry("b", 1, 1-65536), entry("b", 1, math.MinInt)} {
		for _, alive := range []bool{true, false} {
			op, e := node.Turn(p, en, alive)
			wantNoOp(t, "Turn", op, e, api.ErrNone)
			op, e = node.Turn(leafOf(7), en, alive)
			wantNoOp(t, "Turn of an empty leaf", op, e, api.ErrNone)
		}
	}
}

// outside is places that are none of so many.
func outside(n int) []int {
	return []int{-1, -2, -n, -n - 1, -256, math.MinInt, n, n + 1, 256, 1 << 32, math.MaxInt}
}

// 12.2: each slot, and those past both ends, of a leaf, an inner page and others.
func TestTake(t *testing.T) {
	for _, p := range []api.Sheet{
		leafOf(7, live(at("a")), ghost(at("b")), live(at("c"))),
		innerOf(1, child(1, at("")), child(2, at("b")), child(3, at("c"))),
		{Kind: api.KindHeap, Slots: []string{"x", "", "zz"}},
		{Kind: api.KindLeaf, Slots: []string{"", "x", "\x02"}},
	} {
		for i, s := range p.Slots {
			op, e := node.Take(p, i)
			wantOp(t, "Take", op, e, api.Op{Kind: api.OpRemove, At: i, Old: s})
			q := done(t, p, op)
			want := append(append([]string{}, p.Slots[:i]...), p.Slots[i+1:]...)
			if strings.Join(q.Slots, "|") != strings.Join(want, "|") || q.Head != p.Head {
				t.Errorf("taken: %#v", q)
			}
			if !page.Same(done(t, q, page.Inverse(op)), p) {
				t.Error("it is not back")
			}
		}
		for _, i := range outside(3) {
			op, e := node.Take(p, i)
			wantNoOp(t, "Take", op, e, api.ErrNone)
		}
	}
	for _, p := range []api.Sheet{leafOf(7), innerOf(1), {}} {
		for _, i := range []int{0, 1, -1} {
			op, e := node.Take(p, i)
			wantNoOp(t, "Take of no slot", op, e, api.ErrNone)
		}
	}
}

// 12.2: the change, its bytes laid by hand, at each place.
func TestPutChild(t *testing.T) {
	wantOp(t, "by hand", node.PutChild(0, child(0x04030201, entry("key", 0x08070605, 0x0a09))), api.OK, api.Op{Kind: api.OpInsert, At: 0, S: "\x01\x02\x03\x04\x05\x06\x07\x08\x09\x0akey"})
	wantOp(t, "zero", node.PutChild(2, api.Child{}), api.OK, api.Op{Kind: api.OpInsert, At: 2, S: strings.Repeat("\x00", 10)})
	for _, i := range []int{0, 1, 63, 64, -1, math.MinInt, math.MaxInt} {
		for _, en := range edges() {
			wantOp(t, "edge", node.PutChild(i, child(math.MaxUint32, en)), api.OK, api.Op{Kind: api.OpInsert, At: i, S: childSlot(child(math.MaxUint32, en))})
		}
	}
	l := []api.Child{child(1, at("")), child(2, at("b")), child(3, entry("b", 1, 2))}
	for i := range len(l) + 1 {
		c := child(9, entry(keyOf(64), 0x04030201, 65535))
		want := append(append(append([]api.Child{}, l[:i]...), c), l[i:]...)
		q := done(t, innerOf(2, l...), node.PutChild(i, c))
		wantInner(t, "put in", q, want...)
		if node.Level(q) != 2 {
			t.Errorf("Level: %d", node.Level(q))
		}
	}
	if _, e := page.Apply(innerOf(2, l...), node.PutChild(4, l[0]), 1); e != api.ErrArg {
		t.Errorf("past the end: %d", e)
	}
}

// 12.2: where a child begins, at each place; its page stays.
func TestSetFrom(t *testing.T) {
	l := []api.Child{child(0x04030201, at("")), child(2, at("b")), child(math.MaxUint32, entry("c", 1, 2))}
	p := innerOf(2, l...)
	for i, c := range l {
		for _, from := range []api.Entry{at(""), at("bb"), entry("bb", 258, 513), entry(keyOf(64), math.MaxUint32, 65535), c.From} {
			op, e := node.SetFrom(p, i, from)
			wantOp(t, "SetFrom", op, e, api.Op{Kind: api.OpSet, At: i, S: childSlot(child(c.Page, from)), Old: p.Slots[i]})
			want := append([]api.Child{}, l...)
			want[i].From = from
			q := done(t, p, op)
			wantInner(t, "set", q, want...)
			if node.Level(q) != 2 {
				t.Errorf("Level: %d", node.Level(q))
			}
			op, e = node.SetFrom(q, i, c.From)
			wantOp(t, "back", op, e, api.Op{Kind: api.OpSet, At: i, S: p.Slots[i], Old: q.Slots[i]})
			if !page.Same(done(t, q, op), p) {
				t.Error("it is not back")
			}
		}
	}
	op, e := node.SetFrom(innerOf(1, child(0x04030201, at("x"))), 0, entry("key", 0x08070605, 0x0a09))
	wantOp(t, "by hand", op, e, api.Op{Kind: api.OpSet, S: "\x01\x02\x03\x04\x05\x06\x07\x08\x09\x0akey", Old: "\x01\x02\x03\x04\x00\x00\x00\x00\x00\x00x"})
	for _, i := range outside(3) {
		op, e := node.SetFrom(p, i, at("a"))
		wantNoOp(t, "SetFrom", op, e, api.ErrNone)
	}
	for _, i := range []int{0, 1, -1} {
		op, e := node.SetFrom(innerOf(1), i, at("a"))
		wantNoOp(t, "SetFrom of no child", op, e, api.ErrNone)
	}
}

// R2: ErrNode is told ahead of ErrTwice and ErrNone.
func TestErrNodeFirst(t *testing.T) {
	item, kid := itemSlot(live(at("a"))), childSlot(child(1, at("a")))
	pages := []api.Sheet{{}, page.Blank(3), kinded(leafOf(7), api.KindHeap), headed(leafOf(7), "\x07"), headed(innerOf(1), "\x01\x00")}
	var bad []api.Sheet
	for _, p := range pages {
		bad = append(bad, p, with(p, item), with(p, kid))
	}
	noLeaves := append([]api.Sheet{innerOf(1), with(innerOf(1), item), with(leafOf(7), item, "\x01"), with(leafOf(7), "", item), with(leafOf(7), item, "\x02"+item[1:])}, bad...)
	for _, p := range noLeaves {
		for _, k := range []string{"a", "b"} {
			op, e := node.PutItem(p, live(at(k)))
			wantNoOp(t, "PutItem", op, e, api.ErrNode)
			op, e = node.Turn(p, at(k), true)
			wantNoOp(t, "Turn", op, e, api.ErrNode)
			op, e = node.Turn(p, at(k), false)
			wantNoOp(t, "Turn", op, e, api.ErrNode)
		}
	}
	noInners := append([]api.Sheet{leafOf(7), with(leafOf(7), kid), with(innerOf(1), kid, kid[:9]), with(innerOf(1), "", kid)}, bad...)
	for _, p := range noInners {
		for _, i := range append(outside(3), 0, 1, 2) {
			op, e := node.SetFrom(p, i, at("a"))
			wantNoOp(t, "SetFrom", op, e, api.ErrNode)
		}
	}
}

// R1: numbers that a slot has no bytes for: their lowest bytes are laid, as everywhere.
func TestNumbersBeyond(t *testing.T) {
	op, e := node.PutItem(leafOf(0), live(entry("a", 1, 0x12345)))
	wantOp(t, "PutItem", op, e, api.Op{Kind: api.OpInsert, S: "\x01\x01\x00\x00\x00\x45\x23a"})
	op, e = node.PutItem(leafOf(0), live(entry("a", 1, -1)))
	wantOp(t, "PutItem", op, e, api.Op{Kind: api.OpInsert, S: "\x01\x01\x00\x00\x00\xff\xffa"})
	wantOp(t, "PutChild", node.PutChild(0, child(1, entry("a", 1, math.MinInt+2))), api.OK, api.Op{Kind: api.OpInsert, S: "\x01\x00\x00\x00\x01\x00\x00\x00\x02\x00a"})
	op, e = node.SetFrom(innerOf(1, child(1, at(""))), 0, entry("", 1, math.MaxInt))
	wantOp(t, "SetFrom", op, e, api.Op{Kind: api.OpSet, S: "\x01\x00\x00\x00\x01\x00\x00\x00\xff\xff", Old: "\x01\x00\x00\x00\x00\x00\x00\x00\x00\x00"})
}
