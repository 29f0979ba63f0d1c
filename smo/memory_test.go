package smo_test

import (
	"strings"
	"testing"
	"unsafe"

	"girder/api"
	"girder/smo"
)

// R4: an entry that is handed in is not kept: its memory may be used for something else.
func TestKeysAreCopied(t *testing.T) {
	s := planted(t, leafOf(3, 0, live(at("there")), ghost(at("was"))))
	n := s.begin(t)
	room := []byte("there")
	key := func(k string) api.Entry {
		copy(room, k)
		return at(unsafe.String(&room[0], len(k)))
	}
	wantErr(t, "Insert", smo.Insert(s.Manager, n, 3, key("fresh"), nil), api.OK)
	wantErr(t, "Insert", smo.Insert(s.Manager, n, 3, key("was"), nil), api.OK)
	wantErr(t, "Delete", smo.Delete(s.Manager, n, 3, key("there")), api.OK)
	key("xxxxx")
	s.wantPage(t, leafOf(3, 0, live(at("fresh")), ghost(at("there")), live(at("was"))))
	wantErr(t, "Undo", smo.Undo(s.Manager, n, 3, key("there"), false, s.save(t, n)), api.OK)
	key("xxxxx")
	s.wantPage(t, leafOf(3, 0, live(at("fresh")), live(at("there")), live(at("was"))))
	s.abort(t, n)
	s.wantPage(t, leafOf(3, 0, ghost(at("fresh")), live(at("there")), ghost(at("was"))))
}

// R4: nor where it goes into an inner page, as what a child begins with.
func TestKeysInInnerPagesAreCopied(t *testing.T) {
	s := begun(t)
	n := s.begin(t)
	root := s.create(t, n)
	room := []byte(strings.Repeat("k", api.MaxKey))
	has := items{}
	for i := range 60 {
		room[0], room[1] = 'a'+byte(i*7%20), 'a'+byte(i/20)
		en := entry(unsafe.String(&room[0], len(room)), 1, i)
		wantErr(t, "Insert", smo.Insert(s.Manager, n, root, en, nil), api.OK)
		en.Key = strings.Clone(en.Key)
		has[en] = true
	}
	copy(room, "zzzzzz")
	s.wantWhole(t, root, has.list()...)
}

// R4: free is handed what is its own, and is not asked again when the call has answered.
func TestFreeIsNotKept(t *testing.T) {
	s := grove(t, 2)
	n := s.begin(t)
	asked, over := 0, false
	free := func(r api.RID) bool {
		if over {
			t.Error("asked for", r)
		}
		asked++
		r.Slot, r.Page = 77, 77
		return false
	}
	s.wantClean(t, n, 3, free, 0, 0)
	over = true
	s.wantClean(t, n, 3, none, 0, 0)
	s.insert(t, n, 3, wides(60, 80)...)
	if asked != 11 {
		t.Error("asked for", asked)
	}
}

// R5: two stores have nothing in common, and the same calls come to the same.
func TestApart(t *testing.T) {
	a, b := begun(t), begun(t)
	n, other := a.begin(t), b.begin(t)
	root := a.create(t, n)
	a.insert(t, n, root, wides(0, 30)...)
	if again := b.create(t, other); again != root {
		t.Error("Create:", again)
	}
	b.wantWhole(t, root)
	b.insert(t, other, root, wides(0, 30)...)
	b.wantSame(t, "the same calls", a.look(t))
}
