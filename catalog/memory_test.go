package catalog_test

import (
	"slices"
	"testing"
	"unsafe"

	"girder/api"
	"girder/catalog"
)

// loose is a text, and the memory in which it stands.
func loose(s string) (string, []byte) {
	b := []byte(s)
	return unsafe.String(&b[0], len(b)), b
}

// spoil lays something else in all that a list of tables has, spare room too.
func spoil(l []api.Table) {
	for _, x := range l[:cap(l)] {
		for _, y := range x.Indexes[:cap(x.Indexes)] {
			for i := range y.Cols[:cap(y.Cols)] {
				y.Cols[:cap(y.Cols)][i] = 77
			}
		}
		clear(x.Indexes[:cap(x.Indexes)])
	}
	clear(l[:cap(l)])
}

// stocked is a store with two tables.
func stocked(t *testing.T) (store, []api.Table) {
	t.Helper()
	s := begun(t)
	n := s.begin(t)
	a, b := s.create(t, n, "aaaa", 2), s.create(t, n, "bbbb", 3)
	a.Indexes = append(a.Indexes, s.index(t, n, "aaaa", "xxxx", true, 1, 0), s.index(t, n, "aaaa", "yyyy", false, 0))
	b.Indexes = append(b.Indexes, s.index(t, n, "bbbb", "xxxx", false, 0, 1, 2))
	s.commit(t, n)
	return s, []api.Table{a, b}
}

// copies is tables that share no memory with others.
func copies(l []api.Table) []api.Table {
	l = slices.Clone(l)
	for i := range l {
		l[i].Indexes = slices.Clone(l[i].Indexes)
		for j := range l[i].Indexes {
			l[i].Indexes[j].Cols = slices.Clone(l[i].Indexes[j].Cols)
		}
	}
	return l
}

// R4: what is told is new memory: it shares none with what is kept, nor with another answer.
func TestAnswersShareNothing(t *testing.T) {
	s, want := stocked(t)
	kept := copies(want)
	for range 2 {
		one, _ := catalog.All(s.Manager)
		other, _ := catalog.All(s.Manager)
		found, _ := catalog.Find(s.Manager, "aaaa")
		again, _ := catalog.Find(s.Manager, "aaaa")
		spoil(one)
		spoil([]api.Table{found})
		if told(other) != told(kept) || told(again) != told(kept[0]) {
			t.Errorf("two answers share memory: %+v, %+v", other, again)
		}
		s.wantAll(t, kept...)
	}
	n := s.begin(t)
	gone := s.drop(t, n, "aaaa")
	spoil([]api.Table{gone})
	s.wantAll(t, kept[1])
	s.to(t, n, 0)
	s.wantAll(t, kept...)
	// What Create and CreateIndex told.
	spoil(want)
	s.wantAll(t, kept...)
}

// R4: no two lists of one answer share any.
func TestListsShareNothing(t *testing.T) {
	s, want := stocked(t)
	l, _ := catalog.All(s.Manager)
	for i := range l {
		for j := range l[i].Indexes {
			x := &l[i].Indexes[j]
			was := told(copies(l))
			// Into the spare room, where another list would stand.
			x.Cols = append(x.Cols, 77)[:len(x.Cols)]
			l[i].Indexes = append(l[i].Indexes, api.Index{Name: "q"})[:len(l[i].Indexes)]
			if told(l) != was {
				t.Errorf("%+v was %s", l, was)
			}
		}
	}
	s.wantAll(t, want...)
}

// texts is where the names of some tables stand.
func texts(l ...api.Table) []*byte {
	var at []*byte
	for _, x := range l {
		at = append(at, unsafe.StringData(x.Name))
		for _, y := range x.Indexes {
			at = append(at, unsafe.StringData(y.Name))
		}
	}
	return at
}

// R4: names that are told share no bytes with one another, nor with the next answer.
func TestNamesAreNew(t *testing.T) {
	s, want := stocked(t)
	met := texts(want...)
	for range 2 {
		l, _ := catalog.All(s.Manager)
		x, _ := catalog.Find(s.Manager, "aaaa")
		met = append(append(met, texts(l...)...), texts(x)...)
	}
	n := s.begin(t)
	met = append(met, texts(s.drop(t, n, "aaaa"))...)
	for i, a := range met {
		if slices.Contains(met[:i], a) {
			t.Error("two names share their memory:", i)
		}
	}
}

// R4: what is handed in stays as it is, spare room too, and is not kept.
func TestNothingIsKept(t *testing.T) {
	s := begun(t)
	n := s.begin(t)
	name, letters := loose("aaaa")
	x, e := catalog.Create(s.Manager, n, name, 2)
	wantErr(t, "Create", e, api.OK)
	ofIndex, others := loose("xxxx")
	room := []int{1, 0, 7, 8}
	y, e := catalog.CreateIndex(s.Manager, n, name, ofIndex, room[:2], true)
	wantErr(t, "CreateIndex", e, api.OK)
	wantErr(t, "CreateIndex", s.indexes(n, name, ofIndex, room[:3]...)(), api.ErrCols)
	_, e = catalog.Find(s.Manager, name)
	wantErr(t, "Find", e, api.OK)
	if string(letters) != "aaaa" || string(others) != "xxxx" || !slices.Equal(room, []int{1, 0, 7, 8}) {
		t.Errorf("changed: %s, %s, %v", letters, others, room)
	}
	for i := range 4 {
		letters[i], others[i], room[i] = '#', '#', 77
	}
	want := table("aaaa", 1, 3, 2, index("xxxx", 2, 4, true, 1, 0))
	wantIndex(t, "CreateIndex", y, want.Indexes[0])
	s.wantAll(t, want)
	x.Indexes = []api.Index{y}
	wantTable(t, "Create", x, want)
	copy(letters, "aaaa")
	gone, e := catalog.Drop(s.Manager, n, name)
	wantErr(t, "Drop", e, api.OK)
	copy(letters, "####")
	wantTable(t, "Drop", gone, want)
	s.to(t, n, 0)
	s.wantAll(t)
}

// R5: two stores have nothing in common, and the same calls come to the same.
func TestApart(t *testing.T) {
	a, want := stocked(t)
	b, _ := stocked(t)
	was := b.look(t)
	n := a.begin(t)
	a.drop(t, n, "aaaa")
	b.wantSame(t, "what was done elsewhere", was)
	b.wantAll(t, want...)
	b.drop(t, b.begin(t), "aaaa")
	b.wantSame(t, "the same calls", a.look(t))
}
