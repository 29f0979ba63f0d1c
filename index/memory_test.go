package index_test

import (
	"maps"
	"slices"
	"testing"
	"unsafe"

	"girder/api"
	"girder/index"
	"girder/page"
)

// loose is a text, and the memory in which it stands.
func loose(s string) (string, []byte) {
	b := []byte(s)
	return unsafe.String(&b[0], len(b)), b
}

// R4: what is told is new memory, spare room too: whatever becomes of it, other answers stay.
func TestAnswersShareNothing(t *testing.T) {
	p := grown(t, someTree())
	needs := map[string]func() []api.Need{
		"Range":                      func() []api.Need { _, l, _ := index.Range(p, table, someIndex(false), "", "\xff"); return l },
		"Put":                        func() []api.Need { l, _, _ := index.Put(p, table, someIndex(false), at("c")); return l },
		"Put of a key that is there": func() []api.Need { l, _, _ := index.Put(p, table, someIndex(true), at("c")); return l },
		"Put among ghosts":           func() []api.Need { l, _, _ := index.Put(p, table, someIndex(true), at("q")); return l },
		"Take":                       func() []api.Need { return index.Take(table, at("c")) },
	}
	for what, tell := range needs {
		a, b := tell(), tell()
		want := slices.Clone(b)
		for i := range a[:cap(a)] {
			a[:cap(a)][i] = atOnce(api.Name{Kind: 77})
		}
		if !slices.Equal(b, want) || !slices.Equal(tell(), want) {
			t.Errorf("two answers of %s share memory", what)
		}
	}
	a, _, _ := index.Range(p, table, someIndex(false), "", "\xff")
	b, _, _ := index.Range(p, table, someIndex(false), "", "\xff")
	want := slices.Clone(b)
	for i := range a[:cap(a)] {
		a[:cap(a)][i] = at("77")
	}
	if c, _, _ := index.Range(p, table, someIndex(false), "", "\xff"); !slices.Equal(b, want) || !slices.Equal(c, want) {
		t.Error("two answers of Range share memory")
	}
}

// R4: no two entries that are found have their keys in the same memory.
func TestKeysShareNothing(t *testing.T) {
	p := grown(t, someTree())
	where := map[*byte]int{}
	n := 0
	for range 2 {
		found, _, _ := index.Range(p, table, someIndex(false), "a", "z")
		for _, en := range found {
			where[unsafe.StringData(en.Key)]++
			n++
		}
	}
	if n != 12 || len(where) != n {
		t.Errorf("%d entries, their keys in %d places", n, len(where))
	}
}

// R4: keys that are handed in are neither changed nor kept, an index's columns neither, with what lies behind their end.
func TestHandedInStays(t *testing.T) {
	p := grown(t, someTree())
	all := []int{4, 5, 6, 7}
	ix := api.Index{Name: "x", ID: 3, Root: treeRoot, Cols: all[1:2:4], Unique: true}
	low, b := loose("b")
	high, c := loose("bz")
	k, d := loose("q")
	found, needs, e := index.Range(p, table, ix, low, high)
	put, twice, e1 := index.Put(p, table, ix, of(k, 20))
	take := index.Take(table, of(k, 20))
	if string(b) != "b" || string(c) != "bz" || string(d) != "q" || !slices.Equal(all, []int{4, 5, 6, 7}) {
		t.Errorf("what was handed in was changed: %q, %q, %q, %v", b, c, d, all)
	}
	b[0], d[0] = 'x', 'x'
	copy(c, "xx")
	if e != api.OK || !slices.Equal(found, []api.Entry{of("b", 2)}) || !slices.Equal(needs, read(treeRoot, 2, 3)) {
		t.Errorf("Range: %+v, %+v, %d", found, needs, e)
	}
	if e1 != api.OK || twice || !slices.Equal(put, append(read(treeRoot, 11), atOnce(nameAt(treeRoot, 12)))) || len(take) != 1 {
		t.Errorf("Put: %+v, %v, %d; Take: %+v", put, twice, e1, take)
	}
	wantRange(t, p, someIndex(true), "b", "bz", []api.Entry{of("b", 2)}, read(treeRoot, 2, 3))
}

// R2, R4: the pages and the pool's dirty ones stay as they are.
func TestPagesStay(t *testing.T) {
	p := grown(t, someTree())
	dirty := p.Dirty()
	for _, k := range []string{"", "c", "m", "z"} {
		for _, unique := range []bool{false, true} {
			index.Range(p, table, someIndex(unique), k, "\xff")
			index.Put(p, table, someIndex(unique), of(k, 99))
		}
	}
	if !slices.Equal(p.Dirty(), dirty) {
		t.Error("other pages are dirty")
	}
	for n, want := range maps.All(someTree()) {
		if x, e := p.Get(n); e != api.OK || !page.Same(x, want) || x.LSN != want.LSN {
			t.Errorf("page %d: %+v, %d", n, x, e)
		}
	}
}

// R4, R5: what was told stays when the tree is changed; what is told then is the tree as it is then.
func TestAnswersStay(t *testing.T) {
	p := grown(t, someTree())
	found, needs, _ := index.Range(p, table, someIndex(true), "a", "b")
	put, _, _ := index.Put(p, table, someIndex(true), at("a"))
	if e := p.Put(leafOf(30, 31, live(of("a", 1)), ghost(of("b", 2)), live(of("b", 20)))); e != api.OK {
		t.Fatal("Put:", e)
	}
	if !slices.Equal(found, []api.Entry{of("b", 2)}) || !slices.Equal(needs, read(treeRoot, 1, 2, 3)) {
		t.Errorf("Range: %+v, %+v", found, needs)
	}
	if !slices.Equal(put, append(read(treeRoot, 1), atOnce(nameAt(treeRoot, 1)))) {
		t.Errorf("Put: %+v", put)
	}
	wantRange(t, p, someIndex(true), "a", "b", []api.Entry{of("a", 1), of("b", 20)}, read(treeRoot, 1, 2, 20, 3))
	wantPut(t, p, someIndex(true), at("a"), true, read(treeRoot, 1)...)
}
