package tree_test

import (
	"slices"
	"testing"
	"unsafe"

	"girder/api"
	"girder/tree"
)

// loose is a text, and the memory in which it stands.
func loose(s string) (string, []byte) {
	b := []byte(s)
	return unsafe.String(&b[0], len(b)), b
}

// R4: what is told is new memory, spare room too: whatever becomes of it, other answers and the tree stay.
func TestAnswersShareNothing(t *testing.T) {
	p := grown(t, someTree())
	lists := map[string]func() ([]api.Page, api.Errno){
		"Path":   func() ([]api.Page, api.Errno) { return tree.Path(p, treeRoot, at("c")) },
		"Leaves": func() ([]api.Page, api.Errno) { return tree.Leaves(p, treeRoot) },
		"Check":  func() ([]api.Page, api.Errno) { return tree.Check(p, treeRoot) },
	}
	for what, list := range lists {
		a, _ := list()
		b, _ := list()
		want := slices.Clone(b)
		for i := range a[:cap(a)] {
			a[:cap(a)][i] = 77
		}
		wantPages(t, what, b, api.OK, want...)
		c, e := list()
		wantPages(t, what, c, e, want...)
	}
	a, _ := tree.All(p, treeRoot)
	b, _ := tree.All(p, treeRoot)
	for i := range a[:cap(a)] {
		a[:cap(a)][i] = ghost(at("77"))
	}
	if !slices.Equal(b, someItems()) {
		t.Error("two answers of All share memory:", b)
	}
	wantAll(t, p, treeRoot, someItems()...)
}

// R4: no two answers have the same key in the same memory.
func TestKeysShareNothing(t *testing.T) {
	p := grown(t, someTree())
	where := map[*byte]int{}
	for range 2 {
		seek, _, _ := tree.Seek(p, treeRoot, at("bz"))
		behind, _, _ := tree.Behind(p, treeRoot, at("b"))
		find, _, _ := tree.Find(p, treeRoot, at("bz"))
		all, _ := tree.All(p, treeRoot)
		for _, x := range []api.Item{seek, behind, find, all[2]} {
			if x.Entry.Key != "bz" {
				t.Fatalf("%+v", x)
			}
			where[unsafe.StringData(x.Entry.Key)]++
		}
	}
	if len(where) != 8 {
		t.Errorf("8 answers, their keys in %d places", len(where))
	}
}

// R4: an entry that is handed in is not kept: its key's memory may be used for something else.
func TestEntriesAreNotKept(t *testing.T) {
	p := grown(t, someTree())
	k, b := loose("bz")
	way, e := tree.Path(p, treeRoot, at(k))
	seek, is, e1 := tree.Seek(p, treeRoot, at(k))
	behind, is2, e2 := tree.Behind(p, treeRoot, at(k))
	find, is3, e3 := tree.Find(p, treeRoot, at(k))
	if string(b) != "bz" {
		t.Errorf("it was changed: %q", b)
	}
	copy(b, "xx")
	wantPages(t, "Path", way, e, 10, 20, 30)
	wantItem(t, "Seek", seek, is, e1, live(at("bz")))
	wantItem(t, "Behind", behind, is2, e2, live(at("c")))
	wantItem(t, "Find", find, is3, e3, live(at("bz")))
	wantAll(t, p, treeRoot, someItems()...)
}

// R4, R5: what was told stays when the tree is changed; what is told then is the tree as it is then.
func TestAnswersStay(t *testing.T) {
	p := grown(t, someTree())
	all, _ := tree.All(p, treeRoot)
	leaves, _ := tree.Leaves(p, treeRoot)
	pages, _ := tree.Check(p, treeRoot)
	for _, x := range []api.Sheet{
		innerOf(10, 1, child(34, at("")), child(30, at("b"))),
		leafOf(34, 30, lives("a")...), leafOf(30, 0, lives("c", "d")...),
	} {
		if e := p.Put(x); e != api.OK {
			t.Fatal("Put:", e)
		}
	}
	if !slices.Equal(all, someItems()) {
		t.Error("All:", all)
	}
	wantPages(t, "Leaves", leaves, api.OK, 30, 31, 32, 33, 34, 35)
	wantPages(t, "Check", pages, api.OK, 10, 20, 30, 31, 32, 21, 33, 34, 35)
	wantAll(t, p, treeRoot, lives("a", "c", "d")...)
	leaves, e := tree.Leaves(p, treeRoot)
	wantPages(t, "Leaves", leaves, e, 34, 30)
	pages, e = tree.Check(p, treeRoot)
	wantPages(t, "Check", pages, e, 10, 34, 30)
	wantEach(t, p, treeRoot, lives("a", "c", "d"), probes(someItems()))
}
