package restart_test

import (
	"fmt"
	"math/rand"
	"slices"
	"testing"

	"girder/api"
	"girder/disk"
	"girder/heap"
	"girder/restart"
	"girder/smo"
	"girder/space"
)

// taken is the pages that the map says are taken.
func taken(t *testing.T, s store) []api.Page {
	t.Helper()
	m, e := s.p.Get(api.MapPage)
	wantErr(t, "Get", e, api.OK)
	return space.All(m)
}

// begunSmall is a store with some owners, each with a table and a tree of some entries, of which all is written.
func begunSmall(t *testing.T, owners int) *walk {
	t.Helper()
	s, _ := opened(t, empty(t, 16), frames)
	w := &walk{store: s, t: t}
	n := s.begin(t)
	for range owners {
		o := &owner{sure: content{map[api.RID]string{}, map[api.Entry]bool{}}}
		var e, err api.Errno
		o.table, e = heap.Create(s.Manager, n)
		o.root, err = smo.Create(s.Manager, n)
		if e != api.OK || err != api.OK {
			t.Fatal("Create:", e, err)
		}
		for i := range 4 {
			s.insertKey(t, n, o.root, 10*i)
			o.sure.entries[key(10*i)] = true
		}
		wantErr(t, "Put", heap.Put(s.Manager, n, api.RID{Page: o.table}, "sure"), api.OK)
		o.sure.rows[api.RID{Page: o.table}] = "sure"
		w.owners = append(w.owners, o)
	}
	wantErr(t, "Commit", s.Commit(n), api.OK)
	s.write(t)
	s.take(t)
	return w
}

// small is a small store behind a fall, with a winner and two losers, of which some pages are written: rows, entries, a leaf cut in two, another one that was to be, and what was taken back in part. Of the log's end some bytes are torn.
func small(t *testing.T) *walk {
	t.Helper()
	w := begunSmall(t, 2)
	s, x, y := w.store, w.owners[0], w.owners[1]
	a, b, c := s.begin(t), s.begin(t), s.begin(t)
	wantErr(t, "Update", heap.Update(s.Manager, a, api.RID{Page: x.table}, "winner"), api.OK)
	x.sure.rows[api.RID{Page: x.table}] = "winner"
	for i := range 3 {
		s.insertKey(t, b, x.root, 10*i+1)
		s.insertKey(t, a, x.root, 10*i+2)
		x.sure.entries[key(10*i+2)] = true
	}
	wantErr(t, "Write", s.p.Write(x.root), api.OK)
	wantErr(t, "Update", heap.Update(s.Manager, c, api.RID{Page: y.table}, "loser"), api.OK)
	wantErr(t, "Delete", smo.Delete(s.Manager, c, y.root, key(10)), api.OK)
	s.insertKey(t, b, y.root, 3)
	wantErr(t, "Put", heap.Put(s.Manager, b, api.RID{Page: x.table, Slot: 1}, "loser"), api.OK)
	s.partly(t, c, 1)
	s.lay(t, api.Rec{Kind: api.RecCommit, Tx: a, Prev: lastOf(t, s, a)})
	// The last one was in the midst of a nested top action.
	_, e := heap.Allocate(s.Manager, b)
	wantErr(t, "Allocate", e, api.OK)
	s.flush(t)
	wantErr(t, "AppendLog", s.d.AppendLog("torn"), api.OK)
	wantErr(t, "SyncLog", s.d.SyncLog(), api.OK)
	s.falls()
	return w
}

// tiny is a store behind a fall, with a loser that has some of it taken back, and one that has not: few changes of few pages.
func tiny(t *testing.T) *walk {
	t.Helper()
	w := begunSmall(t, 1)
	s, x := w.store, w.owners[0]
	a, b := s.begin(t), s.begin(t)
	wantErr(t, "Update", heap.Update(s.Manager, a, api.RID{Page: x.table}, "loser"), api.OK)
	wantErr(t, "Delete", smo.Delete(s.Manager, b, x.root, key(10)), api.OK)
	s.put(t, b, 9, "b")
	s.put(t, a, 10, "a")
	s.partly(t, b, 1)
	s.flush(t)
	wantErr(t, "AppendLog", s.d.AppendLog("torn"), api.OK)
	wantErr(t, "SyncLog", s.d.SyncLog(), api.OK)
	s.falls()
	return w
}

// lastOf is the last record of a transaction.
func lastOf(t *testing.T, s store, n int) api.LSN {
	t.Helper()
	x, here := s.State(n)
	if !here {
		t.Fatal("no transaction", n)
	}
	return x.Last
}

// start is a store behind a fall, and what a standing up that is not cut off comes to.
type start struct {
	*walk
	end   api.LSN // of the log
	backs []back
	risen api.Risen
}

func startOf(t *testing.T, w *walk) start {
	t.Helper()
	x := start{walk: w, end: endOf(t, w.d)}
	s, r := opened(t, w.d.Clone(), frames)
	w.wantSurvived("not cut off", s)
	x.backs, x.risen = s.backs(t, x.end), r
	if len(x.backs) != r.Undone {
		t.Fatalf("%d compensations, %+v", len(x.backs), r)
	}
	return x
}

// backs is the compensations behind a place of the log.
func (s store) backs(t *testing.T, from api.LSN) []back {
	t.Helper()
	var l []back
	for _, x := range records(t, s.l, from) {
		if x.r.Kind == api.RecCLR {
			l = append(l, back{x.r.Tx, x.r.Next})
		}
	}
	return l
}

// choices is what of the loose writes survives a fall: none, all, every second, a torn one.
func choices() []api.Fall {
	return []api.Fall{
		{}, {Keep: 1<<64 - 1, Log: api.MaxLog}, {Keep: 0xaaaaaaaaaaaaaaaa, Log: 100}, {Keep: 0x5555555555555555, Log: 47},
		{Torn: 1, Bytes: 200, Log: 300}, {Keep: 1<<64 - 1, Torn: 1, Bytes: 505, Log: 1},
	}
}

// cut lets the power fail at a call of the disk while it stands up: whether it did. Then nothing is told.
func cut(t *testing.T, d *disk.Disk, frames, call int, fall api.Fall) bool {
	t.Helper()
	fell, _ := cutAndTold(t, d, frames, call, fall)
	return fell
}

// cutAndTold is cut, and what was told where the power did not fail.
func cutAndTold(t *testing.T, d *disk.Disk, frames, call int, fall api.Fall) (bool, api.Risen) {
	t.Helper()
	fall.At = d.Calls() + call
	d.Plan([]api.Fall{fall})
	m, r, e := restart.Open(d, frames, []int{1, 2, 3, 0, 2, -1, 5})
	d.Plan(nil)
	if dead := d.Dead(); dead != (e == api.ErrDead) || !dead && e != api.OK || dead != (m == nil) || dead && r != (api.Risen{}) {
		t.Fatalf("dead: %t, but %+v, %d", dead, r, e)
	}
	return d.Up(), r
}

// wantEnds stands up, now that the power stays, and asks for what committed, that each record of a loser was taken back once, over all tries, and that nothing is left to be done, behind one more fall neither.
func (x start) wantEnds(what string, d *disk.Disk, frames int) api.Risen {
	x.t.Helper()
	s, r := opened(x.t, d, frames)
	x.wantSurvived(what, s)
	if is := s.backs(x.t, x.end); !slices.Equal(is, x.backs) {
		x.t.Fatalf("%s: taken back: %v, not %v", what, is, x.backs)
	}
	s, again := opened(x.t, s.falls(), frames)
	if again.Losers != 0 || again.Winners != 0 || again.Undone != 0 || again.Torn != 0 || again.Fresh {
		x.t.Fatalf("%s: and again: %+v", what, again)
	}
	x.wantSurvived(what+", and again", s)
	return r
}

// 21.2, T1, T5: the power fails at each call of the disk, in pools of few frames and of many, whatever of the loose writes survives.
func TestFallAtEachCall(t *testing.T) {
	t.Parallel()
	x := startOf(t, small(t))
	met, partly := 0, 0
	for _, frames := range []int{4, 5, 6, 32} {
		for _, fall := range choices() {
			for call := 0; ; call++ {
				d := x.d.Clone()
				if !cut(t, d, frames, call, fall) {
					break
				}
				met++
				r := x.wantEnds(fmt.Sprintf("%d frames, call %d, %+v", frames, call, fall), d, []int{4, 32, frames}[met%3])
				if r.Undone > 0 && r.Undone < x.risen.Undone {
					partly++
				}
			}
		}
	}
	if met < 200 || partly < 20 {
		t.Errorf("falls: %d; with some of it taken back: %d; %+v", met, partly, x.risen)
	}
}

// wantEndsSo is wantEnds, in short: of many.
func (x start) wantEndsSo(what string, d *disk.Disk, frames int) int {
	x.t.Helper()
	m, r, e := restart.Open(d, frames, nil)
	if e != api.OK || len(m.All()) > 0 {
		x.t.Fatalf("%s: %+v, %d", what, r, e)
	}
	s := store{m, d, m.Pool().Log(), m.Pool()}
	x.wantSurvived(what, s)
	if is := s.backs(x.t, x.end); !slices.Equal(is, x.backs) {
		x.t.Fatalf("%s: taken back: %v, not %v", what, is, x.backs)
	}
	return r.Undone
}

// 21.2, T1, T5: the power fails at each call of the disk, and again at each call of the next standing up, with each choice of what survives at both.
func TestFallAtEachCallTwice(t *testing.T) {
	for _, frames := range [][2]int{{4, 4}, {4, 32}, {32, 4}, {32, 32}} {
		t.Run(fmt.Sprint(frames), func(t *testing.T) {
			t.Parallel()
			x := startOf(t, tiny(t))
			undone := map[int]int{}
			for i := 0; ; i++ {
				more := false
				for _, fall := range choices() {
					d := x.d.Clone()
					if !cut(t, d, frames[0], i, fall) {
						continue
					}
					more = true
					x.again(d, fmt.Sprintf("%v frames, call %d, %+v", frames, i, fall), frames[1], undone)
				}
				if !more {
					break
				}
			}
			// Some of it, or all, was taken back ahead of the last try, or nothing.
			for n := range x.risen.Undone + 1 {
				if undone[n] < 40 {
					t.Errorf("of %d records the last try took back: %v", x.risen.Undone, undone)
				}
			}
		})
	}
}

// again lets the power fail at each call of one more standing up.
func (x start) again(d *disk.Disk, what string, frames int, undone map[int]int) {
	x.t.Helper()
	for _, fall := range choices() {
		for j := 0; ; j++ {
			d := d.Clone()
			if !cut(x.t, d, frames, j, fall) {
				break
			}
			undone[x.wantEndsSo(fmt.Sprintf("%s, and call %d, %+v", what, j, fall), d, []int{4, 32}[j%2])]++
		}
	}
}

// 21.2: on an empty disk the power fails at each call, and again at each: in the end the first pages are there, laid once.
func TestFallWhileFresh(t *testing.T) {
	fresh, began := 0, 0
	for _, fall := range choices() {
		for i := 0; ; i++ {
			d := empty(t, 8)
			if !cut(t, d, 4, i, fall) {
				break
			}
			for _, again := range choices() {
				for j := 0; ; j++ {
					d := d.Clone()
					fell := cut(t, d, 4, j, again)
					s, r := opened(t, d, 4)
					if is := taken(t, s); !slices.Equal(is, []api.Page{1, 2}) {
						t.Fatal("taken:", is)
					}
					if r.Fresh {
						fresh++
					} else {
						began++
					}
					if s, r = opened(t, s.falls(), 4); r.Fresh || r.Undone > 0 {
						t.Fatalf("and again: %+v", r)
					}
					if !fell {
						break
					}
				}
			}
		}
	}
	if fresh < 20 || began < 20 {
		t.Error("laid at the last try, and ahead of it:", fresh, began)
	}
}

// 21.2, T5: where the log has no room for a checkpoint the power fails at each call, too: in the end the loser is taken back once, and that stays so.
func TestFallWithoutRoom(t *testing.T) {
	t.Parallel()
	met := 0
	d := full(t, backLong+2*endLong)
	for _, fall := range choices() {
		for call := 0; ; call++ {
			d := d.Clone()
			if !cut(t, d, 4, call, fall) {
				break
			}
			met++
			s, r := opened(t, d, 4)
			if again, r := opened(t, s.falls(), 4); r.Losers != 0 || r.Undone != 0 || again.l.End() != s.l.End() {
				t.Fatalf("call %d, %+v: %+v", call, fall, r)
			}
			if l := s.backs(t, s.l.Master()); len(l) != 1 || r.Undone > 1 {
				t.Fatalf("call %d, %+v: %v, %+v", call, fall, l, r)
			}
			s.wantSlots(t, 5)
		}
	}
	if met != 2*len(choices()) {
		t.Error("falls:", met)
	}
}

// 21.2, T1, T5: walks of a whole store into which the power falls, and then again and again while it stands up, in pools of other sizes: in the end it stands, with what committed, and each record of a loser was taken back once; so many were told, over all tries that told something, as none of those that fell had made sure.
func TestFallUponFall(t *testing.T) {
	t.Parallel()
	falls, told, sure := 0, 0, 0
	for seed := range int64(150) {
		x := startOf(t, fallen(t, seed))
		r := rand.New(rand.NewSource(seed))
		d, undone := x.d, 0
		for range 1 + r.Intn(12) {
			fall := api.Fall{Keep: r.Uint64(), Torn: r.Intn(3), Bytes: r.Intn(513), Log: r.Intn(900)}
			before := len(over(t, d.Clone(), 4).backs(t, x.end))
			fell, risen := cutAndTold(t, d, 4+r.Intn(5), r.Intn(40), fall)
			if fell {
				falls++
				continue
			}
			if before+risen.Undone != len(x.backs) || undone > 0 && risen.Undone > 0 {
				t.Fatalf("seed %d: told %d; there were %d, in all %d", seed, risen.Undone, before, len(x.backs))
			}
			undone += risen.Undone
			if r.Intn(2) == 0 {
				d.Crash(fall)
				d.Up()
			}
		}
		before := len(over(t, d.Clone(), 4).backs(t, x.end))
		last := x.wantEnds(fmt.Sprint("seed ", seed), d, 4+r.Intn(5))
		if before+last.Undone != len(x.backs) {
			t.Fatalf("seed %d: told %d; there were %d, in all %d", seed, last.Undone, before, len(x.backs))
		}
		told, sure = told+undone+last.Undone, sure+len(x.backs)-undone-last.Undone
	}
	if falls < 200 || told < 300 || sure < 300 {
		t.Error("falls, taken back by tries that told so, and by others:", falls, told, sure)
	}
}

// 21.2, T1: between the standings up there is work, too: walks that go on behind each fall, in pools of few frames and of many, with falls at any call.
func TestWalkOn(t *testing.T) {
	t.Parallel()
	met := map[string]int{}
	var sum api.Risen
	for seed := range int64(60) {
		w := newWalk(t, 700+seed, 4+int(seed)%9)
		for round := range 6 {
			w.d.Plan([]api.Fall{{At: w.d.Calls() + w.r.Intn(120), Keep: w.r.Uint64(), Torn: w.r.Intn(3), Bytes: w.r.Intn(600), Log: w.r.Intn(900)}})
			w.goOn(200, 5+w.r.Intn(60))
			w.d.Crash(api.Fall{Keep: w.r.Uint64(), Log: w.r.Intn(300)})
			w.d.Up()
			w.d.Plan(nil)
			w.settle()
			for range w.r.Intn(4) {
				cut(t, w.d, 4+w.r.Intn(9), w.r.Intn(30), api.Fall{Keep: w.r.Uint64(), Torn: w.r.Intn(3), Bytes: w.r.Intn(600), Log: w.r.Intn(900)})
			}
			s, r := opened(t, w.d, []int{4, 5, 40}[w.r.Intn(3)], 1, 2, 3)
			w.store, w.fell, w.maybe = s, false, nil
			for _, o := range w.owners {
				o.now = o.sure.clone()
				o.ended()
			}
			w.wantSurvived(fmt.Sprintf("seed %d, round %d", seed, round), s)
			sum.Losers, sum.Winners, sum.Undone, sum.Torn = sum.Losers+r.Losers, sum.Winners+r.Winners, sum.Undone+r.Undone, sum.Torn+r.Torn
			sum.Redone, sum.Stood = sum.Redone+r.Redone, sum.Stood+r.Stood
		}
		for what, n := range w.met {
			met[what] += n
		}
	}
	if sum.Losers < 100 || sum.Winners < 20 || sum.Undone < 500 || sum.Torn < 300 || sum.Redone < 500 || sum.Stood < 500 {
		t.Errorf("%+v", sum)
	}
	for _, what := range []string{"Put", "Update", "Delete", "Insert", "Take out", "Clean", "To", "Commit", "Abort", "Take", "Write"} {
		if met[what] < 50 {
			t.Error(what, "was met", met[what], "times")
		}
	}
}
