package ckpt_test

import (
	"fmt"
	"testing"

	"girder/api"
	"girder/catalog"
	"girder/ckpt"
	"girder/disk"
	"girder/rec"
	"girder/undo"
)

// 18.1: of a nil manager.
func TestNil(t *testing.T) {
	if at, e := ckpt.Take(nil); at != 0 || e != api.ErrArg {
		t.Error("Take:", at, e)
	}
	if ckpt.Room(nil) {
		t.Error("Room: true")
	}
}

// The chapter's example: of a manager without transactions a RecCheck without Txs; byte by byte.
func TestExample(t *testing.T) {
	s := bare(t, room, frames)
	at, e := ckpt.Take(s.Manager)
	if at != 1 || e != api.OK {
		t.Fatal("Take:", at, e)
	}
	const zeros = "\x00\x00\x00\x00\x00\x00\x00\x00\x00\x00\x00\x00"
	for _, c := range []struct {
		at, next api.LSN
		want     string
	}{{1, 26, "\x07" + zeros}, {26, 55, "\x08" + zeros + "\x00\x00\x00\x00"}} {
		if r, next, here := s.l.Get(c.at); r != c.want || next != c.next || !here {
			t.Errorf("at %d: %x, %d, %t", c.at, r, next, here)
		}
	}
	if s.l.Flushed() != 55 || s.l.End() != 55 || s.l.Len() != 2 || s.l.Master() != 1 {
		t.Error("Flushed, End, Len, Master:", s.l.Flushed(), s.l.End(), s.l.Len(), s.l.Master())
	}
	// And read by the layer that laid them.
	l := records(t, s.l, 1)
	if !rec.Same(l[0].r, api.Rec{Kind: api.RecBegin}) || !rec.Same(l[1].r, api.Rec{Kind: api.RecCheck}) {
		t.Errorf("%+v", l)
	}
	bare(t, room, frames).take(t)
}

// 18.1: the two records, laid by hand: two transactions, one of which goes back, two dirty pages, and a third one that ended.
func TestRecords(t *testing.T) {
	s := bare(t, room, frames)
	s.lay(t, 5, "a")
	s.lay(t, 7, "a")
	wantErr(t, "WriteAll", s.p.WriteAll(), api.OK)
	one, other, third := s.begin(t), s.begin(t), s.begin(t)
	s.commit(t, third)
	at := s.set(t, one, 7, "a", "b")
	s.set(t, other, 5, "a", "b")
	end := s.l.End()
	s.partly(t, other, 0)
	begin, e := ckpt.Take(s.Manager)
	if begin != end+beginLong || e != api.OK {
		t.Fatal("Take:", begin, e)
	}
	txs := []api.TxState{
		{Tx: one, State: api.TxActive, Last: at, Next: at},
		{Tx: other, State: api.TxAborting, Last: end, Next: at + setLong},
	}
	dirty := []api.Dirty{{Page: 5, LSN: at + setLong}, {Page: 7, LSN: at}}
	s.wantStands(t, s.l, begin, recCheck(3, txs, dirty))
	s.wantSure(t, begin, recCheck(3, txs, dirty))
	r, e := rec.Decode(recCheck(3, txs, dirty))
	if e != api.OK || !rec.Same(r, api.Rec{Kind: api.RecCheck, Tx: 3, Txs: txs, Dirty: dirty}) {
		t.Errorf("laid by hand: %+v, %d", r, e)
	}
}

// wantLast asks how many transactions and pages the last record has, and for its number.
func (s store) wantLast(t *testing.T, tx, txs, dirty int) {
	t.Helper()
	at, _ := s.l.Last()
	l := records(t, s.l, at)
	if r := l[0].r; r.Kind != api.RecCheck || r.Tx != tx || len(r.Txs) != txs || len(r.Dirty) != dirty {
		t.Errorf("the last record: %d, %d, %d transactions, %d pages; not %d, %d, %d", r.Kind, r.Tx, len(r.Txs), len(r.Dirty), tx, txs, dirty)
	}
}

// 18.1: no transactions, one, some, as many as there may be; none of them has a record.
func TestHowMany(t *testing.T) {
	for _, many := range []int{0, 1, 2, 3, api.MaxTx - 1, api.MaxTx} {
		s := bare(t, room, frames)
		for range many {
			s.begin(t)
		}
		s.take(t)
		s.wantLast(t, many, many, 0)
		if many == api.MaxTx {
			_, e := s.Begin()
			wantErr(t, "one more", e, api.ErrMany)
		}
		// And when all have ended: nobody is under way, the number stays.
		for n := 1; n <= many; n++ {
			s.commit(t, n)
		}
		s.take(t)
		s.wantLast(t, many, 0, 0)
	}
}

// 18.1: transactions in each of their states, up to as many as there may be, with any numbers and places.
func TestStates(t *testing.T) {
	for _, many := range []int{1, 2, 3, 7, api.MaxTx} {
		for first := range 3 {
			s := bare(t, room, frames)
			var l []api.TxState
			for i := range many {
				n := api.LSN(i)
				l = append(l, api.TxState{Tx: 1000 - 7*i, State: (first+i)%3 + 1, Last: n * n << 50, Next: n << 40})
			}
			s.load(t, l, 2000)
			s.take(t)
			s.wantLast(t, 1999, many, 0)
		}
	}
}

// 18.1: transactions as they come to their states by themselves: behind changes, savepoints, nested top actions, half of them taken back.
func TestStatesByThemselves(t *testing.T) {
	s := bare(t, room, frames)
	s.lay(t, 5, "a")
	s.take(t)
	n, other := s.begin(t), s.begin(t)
	s.take(t)
	s.set(t, n, 5, "a", "b")
	s.take(t)
	to, e := s.Save(n)
	wantErr(t, "Save", e, api.OK)
	s.set(t, n, 5, "b", "c")
	s.take(t)
	_, e = s.Top(n, to)
	wantErr(t, "Top", e, api.OK)
	s.take(t)
	s.set(t, n, 5, "c", "d")
	wantErr(t, "To", undo.To(s.Manager, n, to), api.OK)
	s.take(t)
	s.set(t, n, 5, "c", "e")
	s.partly(t, n, 0)
	s.take(t)
	s.partly(t, n, 1)
	s.take(t)
	if l := s.All(); len(l) != 2 || l[0].State != api.TxAborting {
		t.Error("All:", l)
	}
	s.commit(t, other)
	s.take(t)
	// What was taken back is what stood there, behind the nested top action too: its change stays.
	s.wantSlot(t, 5, "c")
	s.lay(t, 5, "b")
	wantErr(t, "Abort", undo.Abort(s.Manager, n), api.OK)
	s.take(t)
	s.wantLast(t, 2, 0, 1)
	s.wantSlot(t, 5, "a")
}

// 18.1: the RecCheck's Tx is the number that comes less 1: the least, the greatest that a record has, and where one was laid that is still to come.
func TestNumber(t *testing.T) {
	for _, c := range []struct {
		l    []api.TxState
		next int
		want int
	}{
		{nil, 1, 0}, {nil, 2, 1}, {nil, 77, 76}, {nil, 1 << 31, 1<<31 - 1},
		{[]api.TxState{{Tx: 0, State: 1}}, 1, 0},
		{[]api.TxState{{Tx: 1, State: 1}}, 1, 1},
		{[]api.TxState{{Tx: 5, State: 2}, {Tx: 6, State: 3}, {Tx: 8, State: 1}}, 5, 6},
		{[]api.TxState{{Tx: 9, State: 2}}, 4, 3},
		{[]api.TxState{{Tx: 1<<31 - 1, State: 2}}, 4, 3},
	} {
		s := bare(t, room, frames)
		s.load(t, c.l, c.next)
		s.take(t)
		s.wantLast(t, c.want, len(c.l), 0)
	}
}

// 18.1: what no record may say: it is no checkpoint, and has no room; nothing is changed.
func TestNoRecord(t *testing.T) {
	for _, c := range []struct {
		l    []api.TxState
		next int
	}{
		{nil, 1<<31 + 1}, {nil, 1 << 62},
		{[]api.TxState{{Tx: 1, State: 0}}, 2}, {[]api.TxState{{Tx: 1, State: 4}}, 2}, {[]api.TxState{{Tx: 1, State: -1}}, 2},
		{[]api.TxState{{Tx: -1, State: 1}}, 2}, {[]api.TxState{{Tx: 1 << 31, State: 1}}, 2},
		{[]api.TxState{{Tx: 1, State: 1}, {Tx: 2, State: 3}, {Tx: 3, State: 5}}, 4},
	} {
		s := bare(t, room, frames)
		s.lay(t, 5, "a")
		s.load(t, c.l, c.next)
		s.wantRefused(t, api.ErrRec)
		s.wantRoom(t, false)
		s.d.Crash(api.Fall{})
		s.wantRefused(t, api.ErrRec)
		s.wantRoom(t, false)
	}
}

// 18.1: no page dirty, one, some, as many as there may be, among pages that are not; dirty since their first change.
func TestDirty(t *testing.T) {
	for _, many := range []int{0, 1, 2, 3, 100, api.MaxFrames - 1, api.MaxFrames} {
		s := bare(t, 300, api.MaxFrames)
		n := s.begin(t)
		for i := range many {
			s.lay(t, api.Page(300-i), "a")
		}
		wantErr(t, "WriteAll", s.p.WriteAll(), api.OK)
		for i := range api.MaxFrames - many {
			if _, e := s.p.Get(api.Page(i%40 + 1)); e != api.OK {
				t.Fatal("Get:", e)
			}
		}
		s.take(t)
		s.wantLast(t, 1, 1, 0)
		first := s.l.End()
		for i := range many {
			s.set(t, n, api.Page(300-i), "a", "b")
		}
		for i := range many {
			s.set(t, n, api.Page(300-i), "b", "c")
		}
		s.take(t)
		s.wantLast(t, 1, 1, many)
		at, _ := s.l.Last()
		dirty := records(t, s.l, at)[0].r.Dirty
		for i, x := range dirty {
			// The page 300 was changed first, and stands last.
			if want := first + api.LSN(many-1-i)*setLong; x != (api.Dirty{Page: api.Page(301 - many + i), LSN: want}) {
				t.Fatalf("%d pages: dirty is %v, since %d", many, x, want)
			}
		}
	}
}

// 18.1: pages that were put without a record are dirty since 1, and what was written is not dirty.
func TestDirtyWritten(t *testing.T) {
	s := bare(t, room, 4)
	for n := range api.Page(4) {
		s.lay(t, n+1, "a")
	}
	s.take(t)
	s.wantLast(t, 0, 0, 4)
	wantErr(t, "Write", s.p.Write(2), api.OK)
	s.take(t)
	s.wantLast(t, 0, 0, 3)
	// A page that leaves its frame is written.
	s.p.Picks([]int{3})
	if _, e := s.p.Get(9); e != api.OK {
		t.Fatal("Get:", e)
	}
	s.take(t)
	s.wantLast(t, 0, 0, 2)
	wantErr(t, "WriteAll", s.p.WriteAll(), api.OK)
	s.take(t)
	s.wantLast(t, 0, 0, 0)
}

// 18.1: as many transactions as there may be, and as many dirty pages.
func TestGreatest(t *testing.T) {
	s := bare(t, 300, api.MaxFrames)
	var l []api.TxState
	for i := range api.MaxTx {
		l = append(l, api.TxState{Tx: 1<<31 - 1 - i, State: i%3 + 1, Last: 1<<64 - 1, Next: 1<<64 - 1})
	}
	s.load(t, l, 1<<31-api.MaxTx)
	for n := range api.Page(api.MaxFrames) {
		wantErr(t, "Put", s.p.Put(api.Sheet{Number: n + 1, LSN: api.LSN(n) << 30, Kind: 9}), api.OK)
	}
	s.take(t)
	s.wantLast(t, 1<<31-1, api.MaxTx, api.MaxFrames)
	if s.l.End() != 1+beginLong+checkLong+txLong*api.MaxTx+dirtyLong*api.MaxFrames {
		t.Error("End:", s.l.End())
	}
}

// 18.1: what is not flushed yet goes to the disk with it, and the master is set anew behind each one.
func TestBehindOneAnother(t *testing.T) {
	s := bare(t, room, frames)
	s.lay(t, 5, "a")
	n := s.begin(t)
	var taken []api.LSN
	text := "a"
	for i := range 20 {
		for j := range i % 4 {
			next := fmt.Sprint(i, j)
			s.set(t, n, 5, text, next)
			text = next
		}
		taken = append(taken, s.take(t))
		// The earlier ones stand as they stood.
		for _, at := range taken {
			if r, second, here := s.l.Get(at); r != recBegin() || !here {
				t.Errorf("at %d: %x", at, r)
			} else if l := records(t, s.l, second); l[0].r.Kind != api.RecCheck || l[0].r.Txs[0].Tx != n {
				t.Errorf("at %d: %v", second, l[0])
			}
		}
	}
	if s.take(t) != taken[19]+beginLong+checkLong+txLong+dirtyLong {
		t.Error("two behind one another, with nothing between")
	}
	s.wantSlot(t, 5, text)
}

// 18.1: the master moves to the new one, wherever it stood, and whatever the mark said.
func TestMasterMoves(t *testing.T) {
	for _, mark := range []uint64{0, 1, 2, 26, 1 << 63} {
		s := bare(t, room, frames)
		s.take(t)
		wantErr(t, "SetMark", s.d.SetMark(mark), api.OK)
		wantErr(t, "Sync", s.d.Sync(), api.OK)
		if at := s.take(t); at != 55 {
			t.Error("Take:", at)
		}
	}
}

// 18.1: on a disk that has a log already, of which a manager knows nothing.
func TestOpenedAnew(t *testing.T) {
	s := bare(t, room, frames)
	wantErr(t, "Begin", catalog.Begin(s.Manager), api.OK)
	first := s.take(t)
	s.d.Crash(api.Fall{})
	s.d.Up()
	again := over(t, s.d, frames)
	if again.l.Master() != first {
		t.Error("Master:", again.l.Master())
	}
	if at := again.take(t); at <= first {
		t.Error("Take:", at)
	}
	again.wantLast(t, 0, 0, 0)
	s.wantStands(t, again.l, first, recCheck(1, nil, []api.Dirty{{Page: 1, LSN: 1}, {Page: 2, LSN: dirtySince(t, again, 2)}}))
}

// dirtySince is the first change of a page that the log has.
func dirtySince(t *testing.T, s store, n api.Page) api.LSN {
	t.Helper()
	for _, x := range records(t, s.l, 1) {
		if x.r.Page == n {
			return x.at
		}
	}
	return 0
}

// R5: the same calls come to the same bytes, in two stores that have nothing in common.
func TestAgain(t *testing.T) {
	play := func() (string, uint64) {
		d, _ := disk.New(room)
		s := over(t, d, 4)
		wantErr(t, "Begin", catalog.Begin(s.Manager), api.OK)
		for i := range 9 {
			n := s.begin(t)
			x, e := catalog.Create(s.Manager, n, fmt.Sprint("t", i), 2)
			if e != api.OK || x.ID != i+1 {
				t.Fatal("Create:", x, e)
			}
			s.take(t)
			if i%3 > 0 {
				s.commit(t, n)
			}
		}
		s.take(t)
		log, _ := d.ReadLog()
		mark, _ := d.Mark()
		return log, mark
	}
	a, m := play()
	b, n := play()
	if a != b || m != n {
		t.Error("the same calls have other logs")
	}
}

// R4: what the manager and the pool told ahead of a checkpoint stays as it was told, and what they tell behind it is new.
func TestAnswersStay(t *testing.T) {
	s := bare(t, room, frames)
	s.lay(t, 5, "a")
	s.lay(t, 6, "a")
	n := s.begin(t)
	s.begin(t)
	s.set(t, n, 5, "a", "b")
	all, done, dirty, numbers := s.All(), s.Done(), s.p.Dirty(), s.p.Numbers()
	was := fmt.Sprint(all, done, dirty, numbers)
	at := s.take(t)
	if is := fmt.Sprint(all, done, dirty, numbers); is != was {
		t.Errorf("changed: %s, was %s", is, was)
	}
	check := recCheck(2, all, dirty)
	// Neither are the lists kept.
	for i := range all[:cap(all)] {
		all[:cap(all)][i] = api.TxState{Tx: 99, State: 99}
	}
	for i := range dirty[:cap(dirty)] {
		dirty[:cap(dirty)][i] = api.Dirty{Page: 99, LSN: 99}
	}
	s.wantStands(t, s.l, at, check)
	s.wantSure(t, at, check)
	s.take(t)
}
