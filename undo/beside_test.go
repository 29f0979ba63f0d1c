package undo_test

import (
	"fmt"
	"slices"
	"testing"

	"girder/api"
	"girder/heap"
	"girder/smo"
	"girder/undo"
)

const crowd = 3 // transactions at one time

// beside is some transactions that do the same by turns, beside one another: in one tree, one page of rows, one byte of the map.
type beside struct {
	store
	root, first api.Page
	txs         [crowd]int
	saves       [crowd]api.LSN // behind the first round
	taken       [crowd][]api.Page
}

const rounds = 2

// crowded is such transactions behind all their rounds.
func crowded(t *testing.T) *beside {
	t.Helper()
	s := begun(t)
	x := &beside{store: s, root: s.root(t, wides(0, 9)...), first: s.first(t, "0", "1", "2", "3", "4", "5", "")}
	n := s.begin(t)
	for i := range rounds * crowd {
		wantErr(t, "Delete", heap.Delete(s.Manager, n, api.RID{Page: x.first, Slot: i}), api.OK)
	}
	s.commit(t, n)
	for i := range x.txs {
		x.txs[i] = s.begin(t)
	}
	for round := range rounds {
		for i, n := range x.txs {
			x.taken[i] = append(x.taken[i], s.allocate(t, n))
			for _, en := range x.entries(i, round) {
				s.insert(t, n, x.root, en)
			}
			s.put(t, n, api.RID{Page: x.first, Slot: round*crowd + i}, fmt.Sprint("of ", i))
			s.delete(t, n, x.root, wide(round*crowd+i))
			if round == 0 {
				x.saves[i] = s.save(t, n)
			}
		}
	}
	return x
}

// entries is those that a transaction puts in, in a round: those of others stand between them.
func (x *beside) entries(i, round int) []api.Entry {
	var l []api.Entry
	for k := range 6 {
		l = append(l, wide(100+100*round+crowd*k+i))
	}
	return l
}

// wantLeft asks what is left, where of each transaction so many rounds stay.
func (x *beside) wantLeft(t *testing.T, stay [crowd]int) {
	t.Helper()
	has := map[api.Entry]bool{wide(6): true, wide(7): true, wide(8): true}
	var rows []api.Stored
	for round := range rounds {
		for i := range crowd {
			did := round < stay[i]
			for _, en := range x.entries(i, round) {
				has[en] = did
			}
			has[wide(round*crowd+i)] = !did
			if did {
				rows = append(rows, api.Stored{RID: api.RID{Page: x.first, Slot: round*crowd + i}, Row: fmt.Sprint("of ", i)})
			}
		}
	}
	rows = append(rows, api.Stored{RID: api.RID{Page: x.first, Slot: 6}})
	taken := append(x.wantTree(t, x.root, listed(has)...), 1, 2, x.first)
	x.wantRows(t, x.first, rows...)
	for i := range crowd {
		taken = append(taken, x.taken[i][:stay[i]]...)
	}
	slices.Sort(taken)
	x.wantTaken(t, taken...)
}

// listed is items in the order of their entries, which all have keys of their own.
func listed(has map[api.Entry]bool) []api.Item {
	var l []api.Item
	for en, is := range has {
		l = append(l, api.Item{Entry: en, Live: is})
	}
	slices.SortFunc(l, func(a, b api.Item) int { return before(a.Entry, b.Entry) })
	return l
}

// 16.3, T7: each of some transactions, in each order, stays, goes back to a savepoint, or goes back wholly: what the others did beside it and in between stays.
func TestBesideOthers(t *testing.T) {
	orders := [][crowd]int{{0, 1, 2}, {2, 1, 0}, {1, 2, 0}, {0, 2, 1}, {1, 0, 2}, {2, 0, 1}}
	for _, order := range orders {
		for how := range 27 {
			x := crowded(t)
			stay := [crowd]int{rounds, rounds, rounds}
			x.wantLeft(t, stay)
			for _, i := range order {
				stay[i] = []int{how, how / 3, how / 9}[i] % 3
				switch stay[i] {
				case 0:
					x.wantAborted(t, x.txs[i])
				case 1:
					x.wantBack(t, x.txs[i], x.saves[i])
				default:
					x.commit(t, x.txs[i])
				}
				x.wantLeft(t, stay)
			}
			for i, n := range x.txs {
				if stay[i] == 1 {
					x.wantAborted(t, n)
					stay[i] = 0
					x.wantLeft(t, stay)
				}
			}
			if x.l.Kept() != 0 || len(x.All()) != 0 {
				t.Error("kept:", x.l.Kept(), "under way:", x.All())
			}
			if t.Failed() {
				t.Fatal("order", order, "how", how)
			}
		}
	}
}

// 16.3: bits of one byte of the map, turned over by turns by some, set and cleared.
func TestBitsBesideOthers(t *testing.T) {
	for _, first := range []int{0, 1} {
		s := begun(t)
		lay := s.begin(t)
		for range 4 {
			s.allocate(t, lay)
		}
		s.commit(t, lay)
		s.wantTaken(t, 1, 2, 3, 4, 5, 6)
		x := [2]int{s.begin(t), s.begin(t)}
		s.log(t, x[0], api.Change{Page: api.MapPage, Op: s.claim(t, 7), Undo: api.UndoPage})
		wantErr(t, "Release", heap.Release(s.Manager, x[1], 4), api.OK)
		wantErr(t, "Release", heap.Release(s.Manager, x[0], 5), api.OK)
		s.log(t, x[1], api.Change{Page: api.MapPage, Op: s.claim(t, 8), Undo: api.UndoPage})
		wantErr(t, "Release", heap.Release(s.Manager, x[0], 7), api.OK)
		s.log(t, x[0], api.Change{Page: api.MapPage, Op: s.claim(t, 7), Undo: api.UndoPage})
		s.wantTaken(t, 1, 2, 3, 6, 7, 8)
		s.wantAborted(t, x[first])
		if first == 0 {
			s.wantTaken(t, 1, 2, 3, 5, 6, 8)
		} else {
			s.wantTaken(t, 1, 2, 3, 4, 6, 7)
		}
		s.wantAborted(t, x[1-first])
		s.wantTaken(t, 1, 2, 3, 4, 5, 6)
	}
}

// 16.3: what another one did in the same place, when it was free again, stays: a row in the place of one that went back, an entry that is a ghost, a page.
func TestAgainBehindOthers(t *testing.T) {
	s := begun(t)
	root, first := s.root(t), s.first(t)
	for i := range 3 {
		a := s.begin(t)
		s.put(t, a, api.RID{Page: first}, "a")
		s.insert(t, a, root, at("k"))
		n := s.allocate(t, a)
		s.wantAborted(t, a)
		s.wantRows(t, first)
		s.wantTree(t, root, ghost(at("k")))
		s.wantTaken(t, 1, 2, 3, 4)

		b := s.begin(t)
		s.put(t, b, api.RID{Page: first}, "b")
		s.insert(t, b, root, at("k"))
		if again := s.allocate(t, b); again != n {
			t.Error("Allocate:", again)
		}
		if i == 2 {
			s.commit(t, b)
			break
		}
		s.wantAborted(t, b)
	}
	s.wantRows(t, first, rows(first, "b")...)
	s.wantTree(t, root, live(at("k")))
	s.wantTaken(t, 1, 2, 3, 4, 5)
}

// DOC.md's fourth example: forty rows by which a leaf was cut in two, taken back: ghosts, and the leaf stays cut; another one's stay; what is cleaned goes.
func TestFortyRows(t *testing.T) {
	s := begun(t)
	root := s.root(t)
	a, b := s.begin(t), s.begin(t)
	has := map[api.Entry]bool{}
	for i := range 40 {
		s.insert(t, a, root, wide(2*i))
		has[wide(2*i)] = false
		if i%8 == 0 {
			s.insert(t, b, root, wide(2*i+1))
			has[wide(2*i+1)] = true
		}
	}
	s.wantAborted(t, a)
	pages := s.wantTree(t, root, listed(has)...)
	s.commit(t, b)
	n := s.begin(t)
	ghosts, gone, e := smo.Clean(s.Manager, n, root, func(api.RID) bool { return true })
	if ghosts != 40 || gone == 0 || e != api.OK {
		t.Error("Clean:", ghosts, gone, e)
	}
	was := s.look(t)
	// What was cleaned is gone for good.
	s.wantAborted(t, n)
	s.wantSamePages(t, "Abort", was)
	for en, is := range has {
		if !is {
			delete(has, en)
		}
	}
	if left := s.wantTree(t, root, listed(has)...); len(left) != len(pages)-gone {
		t.Errorf("%d pages, were %d, %d went", len(left), len(pages), gone)
	}
}

// 16.1: what stands elsewhere since is found, for each of some who go back behind one another.
func TestBackWhileOthersCut(t *testing.T) {
	s := laid(t, 200, 8)
	root := s.root(t)
	has := map[api.Entry]bool{}
	var under []int
	for i := range 120 {
		if i%6 == 0 {
			under = append(under, s.begin(t))
		}
		k := i % len(under)
		en := wide(i * 77 % 120)
		s.insert(t, under[k], root, en)
		has[en] = k%2 == 0
	}
	if s.levels(t, root) < 3 {
		t.Fatal("too small a tree")
	}
	for k, n := range under {
		if k%2 == 1 {
			s.wantAborted(t, n)
		}
	}
	s.wantTree(t, root, listed(has)...)
	for k, n := range under {
		if k%2 == 0 {
			wantErr(t, "To", undo.To(s.Manager, n, s.save(t, n)), api.OK)
			s.commit(t, n)
		}
	}
	s.wantTree(t, root, listed(has)...)
}
