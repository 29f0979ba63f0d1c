package node_test

import (
	"encoding/binary"
	"math"
	"slices"
	"strings"
	"testing"

	"girder/api"
	"girder/node"
	"girder/page"
)

// entry is a key and a place.
func entry(key string, n api.Page, slot int) api.Entry {
	return api.Entry{Key: key, RID: api.RID{Page: n, Slot: slot}}
}

// at is the entry of a key at the place zero.
func at(key string) api.Entry { return entry(key, 0, 0) }

func live(e api.Entry) api.Item  { return api.Item{Entry: e, Live: true} }
func ghost(e api.Entry) api.Item { return api.Item{Entry: e} }

func child(n api.Page, from api.Entry) api.Child { return api.Child{Page: n, From: from} }

// keyOf is a key of so many bytes.
func keyOf(n int) string { return strings.Repeat("k", n) }

// entryBytes is an entry by the chapter's words: Page 4, Slot 2, the key.
func entryBytes(e api.Entry) string {
	b := binary.LittleEndian.AppendUint32(nil, uint32(e.RID.Page))
	b = binary.LittleEndian.AppendUint16(b, uint16(e.RID.Slot))
	return string(append(b, e.Key...))
}

// itemSlot is an item by the chapter's words: 1 or 0, and the entry.
func itemSlot(x api.Item) string {
	if x.Live {
		return "\x01" + entryBytes(x.Entry)
	}
	return "\x00" + entryBytes(x.Entry)
}

// childSlot is a child by the chapter's words: Page 4, and where it begins.
func childSlot(c api.Child) string {
	return string(binary.LittleEndian.AppendUint32(nil, uint32(c.Page))) + entryBytes(c.From)
}

// leafOf is a leaf, its bytes laid by the chapter's words.
func leafOf(next api.Page, l ...api.Item) api.Sheet {
	p := api.Sheet{Number: 5, LSN: 9, Kind: 3, Head: string(binary.LittleEndian.AppendUint32(nil, uint32(next)))}
	for _, x := range l {
		p.Slots = append(p.Slots, itemSlot(x))
	}
	return p
}

// innerOf is an inner page, its bytes laid by the chapter's words.
func innerOf(level byte, l ...api.Child) api.Sheet {
	p := api.Sheet{Number: 6, LSN: 9, Kind: 4, Head: string([]byte{level})}
	for _, c := range l {
		p.Slots = append(p.Slots, childSlot(c))
	}
	return p
}

// with is a page with other slots.
func with(p api.Sheet, slots ...string) api.Sheet {
	p.Slots = slots
	return p
}

// headed is a page with another head.
func headed(p api.Sheet, head string) api.Sheet {
	p.Head = head
	return p
}

// kinded is a page of another kind.
func kinded(p api.Sheet, kind int) api.Sheet {
	p.Kind = kind
	return p
}

// done is a page behind a change that must be OK.
func done(t *testing.T, p api.Sheet, op api.Op) api.Sheet {
	t.Helper()
	q, e := page.Apply(p, op, p.LSN+1)
	if e != api.OK {
		t.Fatalf("%#v is not done: %d", op, e)
	}
	return q
}

// wantLeaf asks for the items of a page.
func wantLeaf(t *testing.T, what string, p api.Sheet, want ...api.Item) {
	t.Helper()
	if l, e := node.Leaf(p); e != api.OK || !slices.Equal(l, want) {
		t.Errorf("%s: Leaf: %+v, %d, not %+v", what, l, e, want)
	}
}

// wantInner asks for the children of a page.
func wantInner(t *testing.T, what string, p api.Sheet, want ...api.Child) {
	t.Helper()
	if l, e := node.Inner(p); e != api.OK || !slices.Equal(l, want) {
		t.Errorf("%s: Inner: %+v, %d, not %+v", what, l, e, want)
	}
}

// wantNoLeaf asks for ErrNode.
func wantNoLeaf(t *testing.T, what string, p api.Sheet) {
	t.Helper()
	if l, e := node.Leaf(p); e != api.ErrNode || len(l) != 0 {
		t.Errorf("%s: Leaf: %+v, %d", what, l, e)
	}
}

// wantNoInner asks for ErrNode.
func wantNoInner(t *testing.T, what string, p api.Sheet) {
	t.Helper()
	if l, e := node.Inner(p); e != api.ErrNode || len(l) != 0 {
		t.Errorf("%s: Inner: %+v, %d", what, l, e)
	}
}

// wantOp asks for a change.
func wantOp(t *testing.T, what string, op api.Op, e api.Errno, want api.Op) {
	t.Helper()
	if op != want || e != api.OK {
		t.Errorf("%s: %#v, %d, not %#v", what, op, e, want)
	}
}

// wantNoOp asks for an error, and no change beside it.
func wantNoOp(t *testing.T, what string, op api.Op, e, want api.Errno) {
	t.Helper()
	if op != (api.Op{}) || e != want {
		t.Errorf("%s: %#v, %d, not %d", what, op, e, want)
	}
}

// edges is entries with numbers and keys at their ends.
func edges() []api.Entry {
	var l []api.Entry
	for _, key := range []string{"", "\x00", "a", "\xff\x00\xff", keyOf(api.MaxKey)} {
		for _, n := range []api.Page{0, 1, 258, 0x04030201, math.MaxUint32} {
			for _, slot := range []int{0, 1, 255, 256, 0x0201, 65535} {
				l = append(l, entry(key, n, slot))
			}
		}
	}
	return l
}

// noTrees is pages that are neither leaves nor inner pages, by what they are.
func noTrees() map[string]api.Sheet {
	return map[string]api.Sheet{
		"zero":             {},
		"blank":            page.Blank(5),
		"blank, with head": {Number: 5, Head: "\x07\x00\x00\x00"},
		"the map":          {Kind: api.KindMap, Head: "\x07"},
		"heap":             {Kind: api.KindHeap, Head: "\x07\x00\x00\x00"},
		"kind 5":           {Kind: 5, Head: "\x07"},
		"kind 255":         {Kind: 255, Head: "\x07\x00\x00\x00"},
		"kind 256 and 3":   {Kind: 259, Head: "\x07\x00\x00\x00"},
		"kind 256 and 4":   {Kind: 260, Head: "\x07"},
		"kind below 0":     {Kind: -253, Head: "\x07\x00\x00\x00"},
		"least kind":       {Kind: math.MinInt, Head: "\x07"},
		"greatest kind":    {Kind: math.MaxInt, Head: "\x07\x00\x00\x00"},
		"leaf, no head":    {Kind: api.KindLeaf},
		"leaf, head 1":     {Kind: api.KindLeaf, Head: "\x07"},
		"leaf, head 3":     {Kind: api.KindLeaf, Head: "\x07\x00\x00"},
		"leaf, head 5":     {Kind: api.KindLeaf, Head: "\x07\x00\x00\x00\x00"},
		"leaf, head 32":    {Kind: api.KindLeaf, Head: "\x07" + strings.Repeat("\x00", 31)},
		"inner, no head":   {Kind: api.KindInner},
		"inner, head 2":    {Kind: api.KindInner, Head: "\x07\x00"},
		"inner, head 4":    {Kind: api.KindInner, Head: "\x07\x00\x00\x00"},
		"inner, head 32":   {Kind: api.KindInner, Head: "\x07" + strings.Repeat("\x00", 31)},
	}
}

// 12.1: items, their bytes laid by hand.
func TestLeaf(t *testing.T) {
	head := "\x00\x00\x00\x00"
	p := api.Sheet{Number: 5, LSN: 1, Kind: 3, Head: head, Slots: []string{
		"\x01\x01\x02\x03\x04\x05\x06key",
		"\x00\x00\x00\x00\x00\x00\x00",
		"\x00\xff\xff\xff\xff\xff\xff\x00\x01",
		"\x01\x02\x00\x00\x00\x01\x00" + keyOf(64),
	}}
	wantLeaf(t, "by hand", p,
		live(entry("key", 0x04030201, 0x0605)),
		ghost(at("")),
		ghost(entry("\x00\x01", math.MaxUint32, 65535)),
		live(entry(keyOf(64), 2, 1)))
	wantLeaf(t, "no slot", leafOf(0))
	wantLeaf(t, "slots of length 0", with(leafOf(0), []string{}...))
	for _, e := range edges() {
		wantLeaf(t, "edge", leafOf(7, live(e)), live(e))
		wantLeaf(t, "edge", leafOf(7, ghost(e)), ghost(e))
		wantLeaf(t, "edges", leafOf(7, ghost(at("")), live(e), ghost(e)), ghost(at("")), live(e), ghost(e))
	}
}

// 12.1: children, their bytes laid by hand.
func TestInner(t *testing.T) {
	p := api.Sheet{Number: 5, LSN: 1, Kind: 4, Head: "\x01", Slots: []string{
		"\x07\x00\x00\x00\x00\x00\x00\x00\x00\x00",
		"\x01\x02\x03\x04\x05\x06\x07\x08\x09\x0akey",
		"\xff\xff\xff\xff\xff\xff\xff\xff\xff\xff\x00",
		"\x02\x00\x00\x00\x03\x00\x00\x00\x04\x00" + keyOf(64),
	}}
	wantInner(t, "by hand", p,
		child(7, at("")),
		child(0x04030201, entry("key", 0x08070605, 0x0a09)),
		child(math.MaxUint32, entry("\x00", math.MaxUint32, 65535)),
		child(2, entry(keyOf(64), 3, 4)))
	wantInner(t, "no slot", innerOf(1))
	wantInner(t, "slots of length 0", with(innerOf(1), []string{}...))
	for _, e := range edges() {
		for _, n := range []api.Page{0, 1, 0x04030201, math.MaxUint32} {
			wantInner(t, "edge", innerOf(1, child(n, e)), child(n, e))
			wantInner(t, "edges", innerOf(255, child(1, at("")), child(n, e), child(n, e)), child(1, at("")), child(n, e), child(n, e))
		}
	}
}

// 12.1: pages that are none, without slots and with slots that would do.
func TestNoPageOfATree(t *testing.T) {
	for what, p := range noTrees() {
		wantNoLeaf(t, what, p)
		wantNoInner(t, what, p)
		wantNoLeaf(t, what+", slot", with(p, itemSlot(live(at("a")))))
		wantNoInner(t, what+", slot", with(p, childSlot(child(1, at("a")))))
	}
	wantNoLeaf(t, "inner page", innerOf(1))
	wantNoLeaf(t, "inner page, item", with(innerOf(1), itemSlot(live(at("a")))))
	wantNoInner(t, "leaf", leafOf(7))
	wantNoInner(t, "leaf, child", with(leafOf(7), childSlot(child(1, at("a")))))
	wantNoLeaf(t, "inner page with a leaf's head", headed(innerOf(1), "\x01\x00\x00\x00"))
	wantNoInner(t, "leaf with an inner page's head", headed(leafOf(1), "\x01"))
}

// 12.1: a slot that is none, first, last and between slots that are.
func TestSlotsThatAreNone(t *testing.T) {
	good := itemSlot(live(at("a")))
	whole := itemSlot(live(at("")))
	bad := []string{"\x02" + whole[1:], "\xff" + whole[1:], "\x80" + good[1:], "\x02" + good[1:]}
	for n := range len(whole) {
		bad = append(bad, whole[:n])
	}
	for _, s := range bad {
		for _, l := range [][]string{{s}, {s, good}, {good, s}, {good, s, good}} {
			wantNoLeaf(t, "bad slot", with(leafOf(7), l...))
		}
	}
	good = childSlot(child(3, at("a")))
	whole = childSlot(child(3, at("")))
	for n := range len(whole) {
		s := whole[:n]
		for _, l := range [][]string{{s}, {s, good}, {good, s}, {good, s, good}} {
			wantNoInner(t, "bad slot", with(innerOf(1), l...))
		}
	}
}

// 12.1: each length of a slot, and each first byte.
func TestEachSlot(t *testing.T) {
	for n := range 80 {
		s := strings.Repeat("\x01", n)
		_, e := node.Leaf(with(leafOf(0), s))
		if (e == api.OK) != (n >= 7) {
			t.Errorf("an item of %d bytes: %d", n, e)
		}
		_, e = node.Inner(with(innerOf(1), s))
		if (e == api.OK) != (n >= 10) {
			t.Errorf("a child of %d bytes: %d", n, e)
		}
	}
	for b := range 256 {
		s := string([]byte{byte(b)}) + strings.Repeat("\x01", 12)
		l, e := node.Leaf(with(leafOf(0), s))
		if b > 1 && e != api.ErrNode || b <= 1 && (e != api.OK || l[0].Live != (b == 1)) {
			t.Errorf("a live byte %d: %v, %d", b, l, e)
		}
		c, e := node.Inner(with(innerOf(1), s))
		if e != api.OK || c[0].Page != api.Page(0x01010100+b) {
			t.Errorf("a child's first byte %d: %v, %d", b, c, e)
		}
	}
}

// 12.1: Next of leaves, and 0 of all that is none.
func TestNext(t *testing.T) {
	for _, n := range []api.Page{0, 1, 255, 256, 0x04030201, math.MaxUint32} {
		if got := node.Next(leafOf(n)); got != n {
			t.Errorf("Next: %d, not %d", got, n)
		}
		if got := node.Next(leafOf(n, live(at("a")), ghost(at("b")))); got != n {
			t.Errorf("Next, with slots: %d, not %d", got, n)
		}
	}
	if got := node.Next(headed(leafOf(0), "\x01\x02\x03\x04")); got != 0x04030201 {
		t.Errorf("Next: %x", got)
	}
	for what, p := range noTrees() {
		if got := node.Next(p); got != 0 {
			t.Errorf("%s: Next: %d", what, got)
		}
	}
	for _, p := range []api.Sheet{innerOf(1), innerOf(9, child(3, at(""))), headed(innerOf(1), "\x07\x00\x00\x00")} {
		if got := node.Next(p); got != 0 {
			t.Errorf("Next of an inner page: %d", got)
		}
	}
}

// 12.1: Level of inner pages, and 0 of all that is none.
func TestLevel(t *testing.T) {
	for level := range 256 {
		if got := node.Level(innerOf(byte(level))); got != level {
			t.Errorf("Level: %d, not %d", got, level)
		}
	}
	if got := node.Level(innerOf(2, child(3, at("")), child(4, at("a")))); got != 2 {
		t.Errorf("Level, with slots: %d", got)
	}
	for what, p := range noTrees() {
		if got := node.Level(p); got != 0 {
			t.Errorf("%s: Level: %d", what, got)
		}
	}
	for _, p := range []api.Sheet{leafOf(0), leafOf(7), leafOf(7, live(at("a"))), headed(leafOf(7), "\x07")} {
		if got := node.Level(p); got != 0 {
			t.Errorf("Level of a leaf: %d", got)
		}
	}
}

// olds is pages of all kinds, to be made others.
func olds() []api.Sheet {
	return []api.Sheet{
		page.Blank(5),
		{Number: 5, LSN: 3, Kind: api.KindHeap, Head: "\x04\x00\x00\x00", Slots: []string{"a", "b"}},
		{Number: 5, Kind: api.KindMap, Head: strings.Repeat("h", api.MaxHead)},
		leafOf(7, live(at("a"))),
		innerOf(1, child(3, at(""))),
	}
}

// 12.1: a leaf made of any page; of the numbers all four bytes count.
func TestFormatLeaf(t *testing.T) {
	for _, c := range []struct {
		next api.Page
		head string
	}{
		{0, "\x00\x00\x00\x00"}, {7, "\x07\x00\x00\x00"}, {256, "\x00\x01\x00\x00"}, {1 << 16, "\x00\x00\x01\x00"},
		{0x04030201, "\x01\x02\x03\x04"}, {1 << 31, "\x00\x00\x00\x80"}, {math.MaxUint32, "\xff\xff\xff\xff"},
	} {
		op := node.FormatLeaf(c.next)
		wantOp(t, "FormatLeaf", op, api.OK, api.Op{Kind: api.OpFormat, At: 3, S: c.head})
		for _, p := range olds() {
			q := done(t, p, op)
			wantLeaf(t, "FormatLeaf", q)
			if node.Next(q) != c.next || node.Level(q) != 0 || q.Number != p.Number {
				t.Errorf("FormatLeaf(%d): %#v", c.next, q)
			}
		}
	}
}

// 12.1: an inner page made of any page; of the level the lowest byte counts.
func TestFormatInner(t *testing.T) {
	for _, c := range []struct {
		level int
		head  string
	}{
		{1, "\x01"}, {2, "\x02"}, {0, "\x00"}, {255, "\xff"}, {256, "\x00"}, {257, "\x01"}, {0x1ff, "\xff"}, {-1, "\xff"}, {-255, "\x01"}, {-256, "\x00"},
		{1<<32 + 3, "\x03"}, {math.MaxInt, "\xff"}, {math.MinInt, "\x00"}, {math.MinInt + 5, "\x05"},
	} {
		op := node.FormatInner(c.level)
		wantOp(t, "FormatInner", op, api.OK, api.Op{Kind: api.OpFormat, At: 4, S: c.head})
		for _, p := range olds() {
			q := done(t, p, op)
			wantInner(t, "FormatInner", q)
			if node.Level(q) != int(c.head[0]) || node.Next(q) != 0 || q.Number != p.Number {
				t.Errorf("FormatInner(%d): %#v", c.level, q)
			}
		}
	}
}

// 12.1: another leaf behind a leaf; all else stays, and the inverse makes it as it was.
func TestLink(t *testing.T) {
	numbers := []api.Page{0, 1, 7, 256, 0x04030201, math.MaxUint32}
	for _, from := range numbers {
		for _, to := range numbers {
			p := leafOf(from, live(at("a")), ghost(at("b")))
			op := node.Link(p, to)
			wantOp(t, "Link", op, api.OK, api.Op{Kind: api.OpHead, S: leafOf(to).Head, Old: leafOf(from).Head})
			q := done(t, p, op)
			wantLeaf(t, "Link", q, live(at("a")), ghost(at("b")))
			if node.Next(q) != to || q.Number != p.Number || q.Kind != p.Kind {
				t.Errorf("Link(%d) of %d: %#v", to, from, q)
			}
			if back := done(t, q, page.Inverse(op)); !page.Same(back, p) {
				t.Errorf("back: %#v", back)
			}
		}
	}
	// Whatever the page: its head is the one that goes.
	for what, p := range noTrees() {
		wantOp(t, what, node.Link(p, 258), api.OK, api.Op{Kind: api.OpHead, S: "\x02\x01\x00\x00", Old: p.Head})
	}
}

// The chapter's example.
func TestExample(t *testing.T) {
	l := []api.Child{child(1, at("")), child(2, at("b")), child(3, at("d"))}
	if got := node.Down(l, at("c")); got != 1 {
		t.Errorf("Down: %d", got)
	}
}
