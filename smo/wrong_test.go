package smo_test

import (
	"fmt"
	"math"
	"math/rand"
	"strings"
	"testing"

	"girder/api"
	"girder/node"
	"girder/page"
	"girder/smo"
	"girder/space"
	"girder/tree"
	"girder/txn"
)

// calls is every call, over some tree, each of which would be OK of a transaction that is under way.
func (s store) calls(n int, root api.Page, here, ghost, new api.Entry) map[string]func() api.Errno {
	return map[string]func() api.Errno{
		"Create": func() api.Errno {
			r, e := smo.Create(s.Manager, n)
			if e != api.OK && r != 0 {
				return 777
			}
			return e
		},
		"Insert":            func() api.Errno { return smo.Insert(s.Manager, n, root, new, nil) },
		"Insert of a ghost": func() api.Errno { return smo.Insert(s.Manager, n, root, ghost, none) },
		"Delete":            func() api.Errno { return smo.Delete(s.Manager, n, root, here) },
		"Undo of Insert":    func() api.Errno { return smo.Undo(s.Manager, n, root, here, true, 0) },
		"Undo of Delete":    func() api.Errno { return smo.Undo(s.Manager, n, root, ghost, false, 0) },
		"Clean": func() api.Errno {
			g, p, e := smo.Clean(s.Manager, n, root, all)
			if e != api.OK && (g != 0 || p != 0) {
				return 777
			}
			return e
		},
	}
}

// some is a store with trees: one leaf with ghosts; one of two levels with full leaves, also with ghosts; one without ghosts.
func some(t *testing.T) store {
	t.Helper()
	full := lives(wides(0, 6)...)
	full[1].Live = false
	return planted(t,
		leafOf(3, 0, live(at("a")), ghost(at("b"))),
		innerOf(4, 1, child(10, at("")), child(11, wide(20))), leafOf(10, 11, full...), leafOf(11, 0, lives(wides(20, 26)...)...),
		leafOf(5, 0, live(at("a"))),
	)
}

// A nil Manager, at every function; and one that New did not make.
func TestNilManager(t *testing.T) {
	for _, m := range []*txn.Manager{nil, {}} {
		s := store{Manager: m}
		for _, root := range []api.Page{0, 3, 5000} {
			for what, call := range s.calls(1, root, at("a"), at("b"), at("c")) {
				wantErr(t, what, call(), api.ErrArg)
			}
		}
		// The key is looked at first.
		wantErr(t, "Insert", smo.Insert(m, 1, 3, at(strings.Repeat("k", 65)), nil), api.ErrKey)
		if g, p, e := smo.Clean(m, 1, 3, nil); g != 0 || p != 0 || e != api.ErrArg {
			t.Error("Clean:", g, p, e)
		}
	}
}

// A transaction that is none, at every function: one that never was, that is to come, that ended. Nothing changes, in leaves that are full neither.
func TestNoTransaction(t *testing.T) {
	s := some(t)
	aborted := s.begin(t)
	s.abort(t, aborted)
	s.begin(t)
	for _, n := range []int{math.MinInt, -1, 0, 1, 2, aborted, s.Coming(), 1 << 31, math.MaxInt} {
		for what, call := range s.calls(n, 3, at("a"), at("b"), at("c")) {
			s.wantFails(t, what, api.ErrTx, call)
		}
		for what, call := range s.calls(n, 4, wide(0), wide(1), wide(7)) {
			s.wantFails(t, what, api.ErrTx, call)
		}
		s.wantFails(t, "Insert that cleans", api.ErrTx, func() api.Errno { return smo.Insert(s.Manager, n, 4, wide(7), all) })
		// Also where there is nothing to do.
		s.wantFails(t, "Clean", api.ErrTx, s.calls(n, 5, at("a"), at("a"), at("a"))["Clean"])
	}
	// And one that is under way can.
	for what := range s.calls(0, 3, at("a"), at("b"), at("c")) {
		s := some(t)
		n := s.begin(t)
		wantErr(t, what, s.calls(n, 3, at("a"), at("b"), at("c"))[what](), api.OK)
		wantErr(t, what, s.calls(n, 4, wide(0), wide(1), wide(7))[what](), api.OK)
	}
}

// A transaction that is not active can take back, and nothing else.
func TestNotActive(t *testing.T) {
	s := some(t)
	n := s.begin(t)
	s.insert(t, n, 3, at("m"))
	wantErr(t, "Abort", s.Abort(n, func(int, api.Rec) api.Errno { return 777 }), 777)
	for _, l := range []map[string]func() api.Errno{s.calls(n, 3, at("a"), at("b"), at("c")), s.calls(n, 4, wide(0), wide(1), wide(7)), {"Clean": s.calls(n, 5, at("a"), at("a"), at("a"))["Clean"]}} {
		for what, call := range l {
			if !strings.HasPrefix(what, "Undo") {
				s.wantFails(t, what, api.ErrState, call)
			}
		}
	}
	s.abort(t, n)
	s.wantTree(t, 3, live(at("a")), ghost(at("b")), ghost(at("m")))
}

// A transaction whose number no record may have.
func TestGreatNumber(t *testing.T) {
	s := some(t)
	wantErr(t, "Load", s.Load(nil, 1<<31), api.OK)
	n := s.begin(t)
	for what, call := range s.calls(n, 3, at("a"), at("b"), at("c")) {
		s.wantFails(t, what, api.ErrRec, call)
	}
	s.wantFails(t, "Insert", api.ErrRec, func() api.Errno { return smo.Insert(s.Manager, n, 4, wide(7), all) })
}

// Pages that are none of a tree, as roots and below: ErrNode, and nothing changes.
func TestNoTree(t *testing.T) {
	bad := []api.Sheet{
		page.Blank(10),
		{Number: 10, LSN: 1, Kind: api.KindHeap, Head: head4(0)},
		{Number: 10, LSN: 1, Kind: api.KindLeaf, Head: "abc"},
		{Number: 10, LSN: 1, Kind: api.KindLeaf, Head: head4(0), Slots: []string{"\x02" + entryBytes(at("a"))}},
		{Number: 10, LSN: 1, Kind: api.KindLeaf, Head: head4(0), Slots: []string{"short"}},
		{Number: 10, LSN: 1, Kind: api.KindInner, Head: "ab", Slots: []string{childBytes(child(11, at("")))}},
		{Number: 10, LSN: 1, Kind: api.KindInner, Head: "\x01", Slots: []string{"short"}},
		innerOf(10, 1),
		innerOf(10, 1, child(10, at(""))),
		innerOf(10, 1, child(12, at(""))),
		{Number: 10, LSN: 1, Kind: api.KindMap, Slots: []string{strings.Repeat("\x00", 256)}},
	}
	for i, x := range bad {
		s := planted(t, x, innerOf(3, 2, child(10, at("")), child(11, at("m"))), leafOf(11, 0), innerOf(12, 1, child(10, at(""))))
		n := s.begin(t)
		for _, root := range []api.Page{10, 3} {
			for what, call := range s.calls(n, root, at("a"), at("b"), at("c")) {
				if what != "Create" {
					s.wantFails(t, fmt.Sprint(what, " of ", i, " in ", root), api.ErrNode, call)
				}
			}
			// It is told ahead of a transaction that is none.
			for what, call := range s.calls(99, root, at("a"), at("b"), at("c")) {
				if what != "Create" {
					s.wantFails(t, fmt.Sprint(what, " of ", i, " in ", root), api.ErrNode, call)
				}
			}
		}
		// Who goes another way meets nothing of that.
		if x.Kind != api.KindInner {
			wantErr(t, "Insert", smo.Insert(s.Manager, n, 3, at("z"), nil), api.OK)
			wantErr(t, "Delete", smo.Delete(s.Manager, n, 3, at("z")), api.OK)
			wantErr(t, "Undo", smo.Undo(s.Manager, n, 3, at("z"), false, 0), api.OK)
		}
	}
}

// Roots that are no pages' numbers, and pages that can't be read.
func TestNoPage(t *testing.T) {
	s := some(t)
	n := s.begin(t)
	for _, root := range []api.Page{0, api.MaxPages + 1, math.MaxUint32} {
		for what, call := range s.calls(n, root, at("a"), at("b"), at("c")) {
			if what != "Create" {
				s.wantFails(t, what, api.ErrArg, call)
			}
		}
	}
	wantErr(t, "WriteAll", s.p.WriteAll(), api.OK)
	s.d.Crash(api.Fall{})
	s.d.Up()
	for _, at := range []api.Page{10, 10 + api.MaxPages} {
		wantErr(t, "Write", s.d.Write(at, strings.Repeat("x", api.PageBytes)), api.OK)
	}
	wantErr(t, "Sync", s.d.Sync(), api.OK)
	s = over(t, s.d, 4)
	wantErr(t, "Load", s.Load(nil, 9), api.OK)
	n = s.begin(t)
	end := s.l.End()
	for what, call := range s.calls(n, 4, wide(0), wide(1), wide(7)) {
		if what != "Create" {
			wantErr(t, what, call(), api.ErrCorrupt)
		}
	}
	if s.l.End() != end {
		t.Error("something was logged")
	}
	s.d.Crash(api.Fall{})
	for what, call := range s.calls(n, 5, at("a"), at("a"), at("c")) {
		if e := call(); e != api.ErrDead {
			t.Errorf("%s: %d", what, e)
		}
	}
}

// R2: which error is told first.
func TestErrorsInOrder(t *testing.T) {
	long := at(strings.Repeat("k", api.MaxKey+1))
	s := some(t)
	n := s.begin(t)
	s.claimAll(t, 0)
	s.leave(t, 0)
	for _, c := range []struct {
		what string
		want api.Errno
		call func() api.Errno
	}{
		{"a long key, no tree", api.ErrKey, func() api.Errno { return smo.Insert(s.Manager, n, 9, long, nil) }},
		{"a long key, no page", api.ErrKey, func() api.Errno { return smo.Insert(s.Manager, n, 0, long, nil) }},
		{"a long key, no transaction", api.ErrKey, func() api.Errno { return smo.Insert(s.Manager, 99, 3, long, nil) }},
		{"no tree, no transaction", api.ErrNode, func() api.Errno { return smo.Insert(s.Manager, 99, 9, at("a"), nil) }},
		{"twice, no transaction", api.ErrTwice, func() api.Errno { return smo.Insert(s.Manager, 99, 3, at("a"), nil) }},
		{"twice, a full leaf, a full disk, a full log", api.ErrTwice, func() api.Errno { return smo.Insert(s.Manager, n, 4, wide(0), all) }},
		{"a full leaf, a full disk, a full log", api.ErrSpace, func() api.Errno { return smo.Insert(s.Manager, n, 4, wide(7), nil) }},
		{"a full log", api.ErrLog, func() api.Errno { return smo.Insert(s.Manager, n, 3, at("c"), nil) }},
		{"Delete of none, no transaction", api.ErrNone, func() api.Errno { return smo.Delete(s.Manager, 99, 3, at("c")) }},
		{"Delete of a ghost, no transaction", api.ErrNone, func() api.Errno { return smo.Delete(s.Manager, 99, 3, at("b")) }},
		{"Delete of none, no tree", api.ErrNode, func() api.Errno { return smo.Delete(s.Manager, n, 9, at("c")) }},
		{"Delete of a long key", api.ErrNone, func() api.Errno { return smo.Delete(s.Manager, n, 3, long) }},
		{"Undo of none, no transaction", api.ErrNone, func() api.Errno { return smo.Undo(s.Manager, 99, 3, at("c"), true, 0) }},
		{"Undo of a long key", api.ErrNone, func() api.Errno { return smo.Undo(s.Manager, n, 3, long, true, 0) }},
		{"Undo, no transaction", api.ErrTx, func() api.Errno { return smo.Undo(s.Manager, 99, 3, at("a"), true, 0) }},
		{"Clean without free, no tree", api.ErrArg, func() api.Errno { _, _, e := smo.Clean(s.Manager, n, 9, nil); return e }},
		{"Clean without free", api.ErrArg, func() api.Errno { _, _, e := smo.Clean(s.Manager, n, 3, nil); return e }},
		{"Clean without free, no transaction", api.ErrArg, func() api.Errno { _, _, e := smo.Clean(s.Manager, 99, 3, nil); return e }},
		{"Clean, no tree, no transaction", api.ErrNode, func() api.Errno { _, _, e := smo.Clean(s.Manager, 99, 9, all); return e }},
		{"Clean, a full log", api.ErrLog, func() api.Errno { _, _, e := smo.Clean(s.Manager, n, 3, all); return e }},
		{"Clean, nothing to do in a full log", api.OK, func() api.Errno { _, _, e := smo.Clean(s.Manager, n, 5, all); return e }},
	} {
		s.wantFails(t, c.what, c.want, c.call)
	}
}

// An entry whose place no record may have: nothing changes, though its leaf is full.
func TestPlacesBeyond(t *testing.T) {
	s := some(t)
	n := s.begin(t)
	for _, slot := range []int{-1, 65536, 65536 + 3, math.MinInt, math.MaxInt} {
		for _, root := range []api.Page{3, 4, 5} {
			en := entry("b", 0, slot)
			s.wantFails(t, "Insert", api.ErrRec, func() api.Errno { return smo.Insert(s.Manager, n, root, en, all) })
			s.wantFails(t, "Delete", api.ErrNone, func() api.Errno { return smo.Delete(s.Manager, n, root, en) })
			s.wantFails(t, "Undo", api.ErrNone, func() api.Errno { return smo.Undo(s.Manager, n, root, en, false, 0) })
		}
	}
	s.insert(t, n, 3, entry("b", 0, 65535))
}

// R1: a free that panics is an argument that may not be.
func TestFreePanics(t *testing.T) {
	panics := func(api.RID) bool { panic("free") }
	s := some(t)
	n := s.begin(t)
	s.wantFails(t, "Insert", api.ErrArg, func() api.Errno { return smo.Insert(s.Manager, n, 4, wide(7), panics) })
	s.wantFails(t, "Clean", api.ErrArg, func() api.Errno {
		g, p, e := smo.Clean(s.Manager, n, 3, panics)
		if g != 0 || p != 0 {
			t.Error("Clean:", g, p)
		}
		return e
	})
	// Where it is not asked, it does not.
	wantErr(t, "Insert", smo.Insert(s.Manager, n, 3, at("c"), panics), api.OK)
	s.wantClean(t, n, 5, panics, 0, 0)
	// In the midst: what was cleaned stays.
	s = grove(t)
	n = s.begin(t)
	if g, p, e := smo.Clean(s.Manager, n, 3, func(r api.RID) bool {
		if r.Slot == 21 {
			panic("free")
		}
		return true
	}); g != 0 || p != 0 || e != api.ErrArg {
		t.Error("Clean:", g, p, e)
	}
	s.abort(t, n)
	s.wantWhole(t, 3, s.itemsOf(t, 3)...)
	if l := s.itemsOf(t, 3); len(l) != 8 {
		t.Error("left:", l)
	}
}

// R1: a free that changes the tree, or ends the transaction, while it is asked: the call ends.
func TestFreeInterferes(t *testing.T) {
	for what, act := range map[string]func(s store, n int){
		"Insert": func(s store, n int) { smo.Insert(s.Manager, n, 3, wide(1000+s.l.Len()), nil) },
		"Delete": func(s store, n int) {
			if l, _ := tree.All(s.p, 3); len(l) > 0 {
				smo.Delete(s.Manager, n, 3, l[len(l)/2].Entry)
			}
		},
		"Clean":  func(s store, n int) { smo.Clean(s.Manager, n, 3, func(r api.RID) bool { return r.Slot%2 == 0 }) },
		"Commit": func(s store, n int) { s.Commit(n) },
		"Abort":  func(s store, n int) { s.Abort(n, s.undo) },
		"Format": func(s store, n int) { s.Log(n, api.Change{Page: 3, Op: node.FormatLeaf(3)}) },
		"Loop":   func(s store, n int) { s.Log(n, api.Change{Page: 21, Op: node.FormatLeaf(20)}) },
	} {
		s := grove(t, 0, 3)
		n := s.begin(t)
		smo.Clean(s.Manager, n, 3, func(r api.RID) bool { act(s, n); return true })
		l := lives(wides(0, 6)...)
		l[0].Live, l[3].Live = false, false
		s = planted(t, leafOf(3, 0, l...))
		n = s.begin(t)
		smo.Insert(s.Manager, n, 3, wide(9), func(r api.RID) bool { act(s, n); return true })
		if what == "Insert" || what == "Delete" {
			if _, e := tree.Check(s.p, 3); e != api.OK {
				t.Error(what, e)
			}
		}
	}
}

// tower is a tree whose ways have so many pages, with a full root: the first child leads down by pages of one child each, and so do all others.
func tower(t *testing.T, long int) (store, []api.Item) {
	t.Helper()
	s := laid(t, 400, frames, 2)
	n := s.begin(t)
	claim := func() api.Page {
		p, op, e := space.Take(s.get(t, api.MapPage), s.d.Room())
		wantErr(t, "Take", e, api.OK)
		_, e = s.Log(n, api.Change{Page: api.MapPage, Op: op})
		wantErr(t, "Log", e, api.OK)
		return p
	}
	root := claim()
	var children []api.Child
	var want []api.Item
	var last api.Page
	for i := range 7 {
		from := wide(10 * i)
		if i == 0 {
			from = at("")
		}
		p := claim()
		children = append(children, child(p, from))
		for level := long - 2; level > 0; level-- {
			below := claim()
			wantErr(t, "Put", s.p.Put(innerOf(p, byte(level), child(below, at("")))), api.OK)
			p = below
		}
		wantErr(t, "Put", s.p.Put(leafOf(p, 0, live(wide(10*i+5)))), api.OK)
		if last != 0 {
			x := s.get(t, last)
			x.Head = head4(p)
			wantErr(t, "Put", s.p.Put(x), api.OK)
		}
		last = p
		want = append(want, live(wide(10*i+5)))
	}
	wantErr(t, "Put", s.p.Put(innerOf(root, byte(long-1), children...)), api.OK)
	s.commit(t, n)
	s.wantWhole(t, root, want...)
	return s, want
}

// 14.3: a tree whose ways have as many pages as they may: its root can't grow, or nobody would come down it any more; one page less, and it grows.
func TestHighestTree(t *testing.T) {
	s, want := tower(t, 31)
	n := s.begin(t)
	s.insert(t, n, 3, wide(99))
	s.wantWhole(t, 3, append(want, live(wide(99)))...)
	if s.levels(t, 3) != 32 {
		t.Error("levels:", s.levels(t, 3))
	}
	s, want = tower(t, 32)
	n = s.begin(t)
	s.wantFails(t, "Insert", api.ErrNode, func() api.Errno { return smo.Insert(s.Manager, n, 3, wide(99), all) })
	s.delete(t, n, 3, wide(5))
	want[0].Live = false
	s.wantWhole(t, 3, want...)
	// The root has less than it may: it need not grow.
	s.wantClean(t, n, 3, all, 1, 31)
	s.insert(t, n, 3, wide(99))
	s.wantWhole(t, 3, append(want[1:], live(wide(99)))...)
}

// 14.3: keys by hand that are longer than they may be: trees stay well formed, whatever has room.
func TestLongKeysByHand(t *testing.T) {
	for _, long := range []int{100, 200, 300, 400, 470} {
		big := at("m" + strings.Repeat("x", long))
		for _, l := range [][]api.Item{lives(big), ghosts(big), lives(at("a"), big), lives(big, at("z")), lives(at("a"), big, at("z"))} {
			used := 0
			for _, x := range l {
				used += 9 + len(x.Entry.Key)
			}
			if used > 481 {
				continue
			}
			s := planted(t, leafOf(3, 0, l...))
			n := s.begin(t)
			has := items{}
			for _, x := range l {
				has[x.Entry] = x.Live
			}
			for i := range 12 {
				to := s.save(t, n)
				en := wide(i)
				if i%2 == 0 {
					en.Key = "n" + en.Key[1:]
				}
				if e := smo.Insert(s.Manager, n, 3, en, nil); e == api.OK {
					has[en] = true
				} else {
					wantErr(t, "Insert", e, api.ErrFull)
					s.back(t, n, to)
				}
				s.wantWhole(t, 3, has.list()...)
			}
			if has[big] {
				s.wantFails(t, "Delete", api.ErrRec, func() api.Errno { return smo.Delete(s.Manager, n, 3, big) })
			}
			if t.Failed() {
				t.Fatal(long, l)
			}
		}
	}
}

// 14.1: a leaf that one slot fills is cut in two, too: all goes into the fresh page, which begins where that slot does.
func TestOneSlotIsCut(t *testing.T) {
	big := at("m" + strings.Repeat("x", 410))
	s := planted(t, innerOf(3, 1, child(8, at(""))), leafOf(8, 0, live(big)))
	n := s.begin(t)
	s.insert(t, n, 3, at("a"))
	s.wantPage(t, innerOf(3, 1, child(8, at("")), child(4, big)), leafOf(8, 4, live(at("a"))), leafOf(4, 0, live(big)))
	s.wantWhole(t, 3, live(at("a")), live(big))
}

// R1: an inner page that is full of one child, which does not begin with the zero entry: what is cut off leaves nothing to go down to.
func TestOneChildIsCut(t *testing.T) {
	s := planted(t, innerOf(3, 2, child(10, at(""))), innerOf(10, 1, child(11, at(strings.Repeat("m", 420)))), leafOf(11, 0, live(at("a"))))
	n := s.begin(t)
	was := s.look(t)
	wantErr(t, "Insert", smo.Insert(s.Manager, n, 3, at("b"), nil), api.ErrNode)
	// What was nested has ended, as well as it could.
	if s.save(t, n) != 0 {
		t.Error("there is something to take back")
	}
	s.wantPage(t, was.pages[10])
}

// R1: a free that lays where children begin anew, so that the way of an empty leaf leads to another one: that one stays.
func TestFreeMisleads(t *testing.T) {
	s := grove(t, 1)
	n := s.begin(t)
	done := false
	g, p, e := smo.Clean(s.Manager, n, 3, func(api.RID) bool {
		if !done {
			op, e := node.SetFrom(s.get(t, 3), 1, wide(25))
			wantErr(t, "SetFrom", e, api.OK)
			_, e = s.Log(n, api.Change{Page: 3, Op: op})
			wantErr(t, "Log", e, api.OK)
			done = true
		}
		return true
	})
	if g != 0 || p != 0 || e != api.ErrNode {
		t.Error("Clean:", g, p, e)
	}
	if x, is, e := tree.Find(s.p, 3, wide(12)); x != live(wide(12)) || !is || e != api.OK {
		t.Error("Find:", x, is, e)
	}
}

// Without a map: what needs no page can be done.
func TestNoMap(t *testing.T) {
	s := bare(t, room, frames)
	wantErr(t, "Put", s.p.Put(leafOf(3, 0, live(at("a")), ghost(at("b")))), api.OK)
	wantErr(t, "Put", s.p.Put(leafOf(4, 0, lives(wides(0, 6)...)...)), api.OK)
	wantErr(t, "Put", s.p.Put(innerOf(5, 1, child(6, at("")))), api.OK)
	wantErr(t, "Put", s.p.Put(leafOf(6, 0)), api.OK)
	n := s.begin(t)
	s.insert(t, n, 3, at("b"), at("c"))
	s.delete(t, n, 3, at("a"))
	s.wantClean(t, n, 3, all, 1, 0)
	for what, call := range map[string]func() api.Errno{
		"Create": func() api.Errno { _, e := smo.Create(s.Manager, n); return e },
		"Insert": func() api.Errno { return smo.Insert(s.Manager, n, 4, wide(9), nil) },
		"Clean":  func() api.Errno { _, _, e := smo.Clean(s.Manager, n, 5, all); return e },
	} {
		to := s.save(t, n)
		wantErr(t, what, call(), api.ErrMap)
		s.back(t, n, to)
	}
	s.wantPage(t, leafOf(4, 0, lives(wides(0, 6)...)...), innerOf(5, 1, child(6, at(""))))
}

// A page that goes, and is free already, by the map.
func TestFreeAlready(t *testing.T) {
	s := begun(t)
	wantErr(t, "Put", s.p.Put(innerOf(3, 1, child(8, at("")), child(9, at("m")))), api.OK)
	wantErr(t, "Put", s.p.Put(leafOf(8, 9, ghost(at("a")))), api.OK)
	wantErr(t, "Put", s.p.Put(leafOf(9, 0, live(at("n")))), api.OK)
	n := s.begin(t)
	to := s.save(t, n)
	if g, p, e := smo.Clean(s.Manager, n, 3, all); g != 0 || p != 0 || e != api.ErrNone {
		t.Error("Clean:", g, p, e)
	}
	s.back(t, n, to)
	s.wantPage(t, innerOf(3, 1, child(8, at("")), child(9, at("m"))), leafOf(8, 9), leafOf(9, 0, live(at("n"))))
}

// R1: whatever stands in the pages, and whichever are taken, every call ends, and none panics; where one fails what it did can be taken back.
func TestAnyPages(t *testing.T) {
	r := rand.New(rand.NewSource(3))
	errs := map[api.Errno]int{}
	for range 3000 {
		s := laid(t, 16, 8, 1+r.Intn(14))
		for n := api.Page(2); n <= 12; n++ {
			wantErr(t, "Put", s.p.Put(anyPage(r, n)), api.OK)
		}
		n := s.begin(t)
		for range 6 {
			root := api.Page(2 + r.Intn(11))
			en := wide(r.Intn(30))
			var e api.Errno
			switch r.Intn(4) {
			case 0:
				e = smo.Insert(s.Manager, n, root, en, []func(api.RID) bool{nil, all, none}[r.Intn(3)])
			case 1:
				e = smo.Delete(s.Manager, n, root, en)
			case 2:
				e = smo.Undo(s.Manager, n, root, en, r.Intn(2) == 0, s.save(t, n))
			case 3:
				_, _, e = smo.Clean(s.Manager, n, root, all)
			}
			errs[e]++
		}
	}
	if errs[api.OK] < 500 || errs[api.ErrNode] < 500 || errs[api.ErrNone] < 100 || errs[api.ErrSpace] == 0 {
		t.Error("met too little:", errs)
	}
}

// anyPage is a page that looks like one of a tree, at most times.
func anyPage(r *rand.Rand, n api.Page) api.Sheet {
	if r.Intn(12) == 0 {
		return page.Blank(n)
	}
	many := r.Intn(7)
	if r.Intn(3) > 0 {
		var l []api.Item
		for i, from := 0, r.Intn(20); i < many; i++ {
			l = append(l, api.Item{Entry: wide(from + i), Live: r.Intn(2) == 0})
		}
		return leafOf(n, api.Page(r.Intn(14)), l...)
	}
	var l []api.Child
	for i, from := 0, r.Intn(20); i < many; i++ {
		c := child(api.Page(2+r.Intn(11)), wide(from+i))
		if i == 0 && r.Intn(8) > 0 {
			c.From = at("")
		}
		l = append(l, c)
	}
	return innerOf(n, byte(r.Intn(3)), l...)
}
