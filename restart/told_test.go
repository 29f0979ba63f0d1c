package restart_test

import (
	"testing"

	"girder/api"
	"girder/catalog"
	"girder/disk"
	"girder/restart"
	"girder/txn"
	"girder/undo"
)

// committed does what a transaction of its own does, and commits it.
func (s store) committed(t *testing.T, do func(n int)) {
	t.Helper()
	n := s.begin(t)
	do(n)
	wantErr(t, "Commit", s.Commit(n), api.OK)
}

// partly lets a transaction go back wholly, but ends that with an error when so many records were taken back: it is aborting then.
func (s store) partly(t *testing.T, n, many int) {
	t.Helper()
	e := s.Abort(n, func(n int, r api.Rec) api.Errno {
		if many == 0 {
			return 777
		}
		many--
		return undo.One(s.Manager, n, r)
	})
	wantErr(t, "Abort", e, 777)
}

// case21 is what is done to a store ahead of a fall of the power, and what standing up comes to then.
type case21 struct {
	what string
	do   func(s store)
	want api.Risen
}

// wantCases asks for cases, each on a store of its own, of which the log has a checkpoint ahead of all, behind which nothing is dirty; and once more with another checkpoint behind what was done, and once more with everything written.
func wantCases(t *testing.T, l []case21) {
	t.Helper()
	for _, x := range l {
		s := fresh(t)
		x.do(s)
		s.flush(t)
		with := s.d.Clone()
		// The log from the front on, whatever stands there: the mark leads to no record.
		whole := s.d.Clone()
		wantErr(t, "SetMark", whole.SetMark(0), api.OK)
		written := over(t, s.d.Clone(), frames)
		x.want.Records += 2
		stood := wantOpen(t, x.what, with, x.want)
		all := x.want
		all.Records, all.Stood = x.want.Records+5, x.want.Stood+first
		other := wantOpen(t, x.what+", from the front on", whole, all)
		other.wantContent(t, x.what+", from the front on", stood.content(t))
		for _, n := range pagesOf(t, written.d) {
			writeAs(t, written.d, s, n)
		}
		all = x.want
		all.Redone, all.Stood = 0, x.want.Redone+x.want.Stood
		other = wantOpen(t, x.what+", written", written.d, all)
		other.wantContent(t, x.what+", written", stood.content(t))
		if t.Failed() {
			t.FailNow()
		}
	}
}

// pagesOf is the pages of which the log of a disk has changes.
func pagesOf(t *testing.T, d *disk.Disk) []api.Page {
	t.Helper()
	s := over(t, d.Clone(), frames)
	seen := map[api.Page]bool{}
	var l []api.Page
	for _, x := range records(t, s.l, 1) {
		if x.r.Page != 0 && !seen[x.r.Page] {
			seen[x.r.Page] = true
			l = append(l, x.r.Page)
		}
	}
	return l
}

// writeAs writes a page of a store to a disk that has the store's log.
func writeAs(t *testing.T, d *disk.Disk, s store, n api.Page) {
	t.Helper()
	x, e := s.p.Get(n)
	wantErr(t, "Get", e, api.OK)
	other := over(t, d, frames)
	wantErr(t, "Put", other.p.Put(x), api.OK)
	wantErr(t, "Write", other.p.Write(n), api.OK)
}

// 21.1: each field by itself, and some beside one another.
func TestRisen(t *testing.T) {
	wantCases(t, []case21{
		{"nothing", func(s store) {}, api.Risen{}},
		{"records that say nothing of pages and of transactions that did not end", func(s store) {
			s.committed(t, func(int) {})
			s.committed(t, func(int) {})
		}, api.Risen{Records: 4}},
		{"changes that are lacked", func(s store) {
			s.committed(t, func(n int) { s.put(t, n, 5, "a"); s.put(t, n, 5, "b"); s.put(t, n, 6, "c") })
		}, api.Risen{Records: 5, Redone: 3}},
		{"changes that are there", func(s store) {
			s.committed(t, func(n int) { s.put(t, n, 5, "a"); s.put(t, n, 5, "b"); s.put(t, n, 6, "c") })
			wantErr(t, "WriteAll", s.p.WriteAll(), api.OK)
		}, api.Risen{Records: 5, Stood: 3}},
		{"some of them", func(s store) {
			s.committed(t, func(n int) {
				s.put(t, n, 5, "a")
				s.put(t, n, 6, "b")
				wantErr(t, "Write", s.p.Write(5), api.OK)
				s.put(t, n, 5, "c")
			})
		}, api.Risen{Records: 5, Redone: 2, Stood: 1}},
		{"a loser without changes", func(s store) {
			s.lay(t, api.Rec{Kind: api.RecTop, Tx: s.begin(t)})
		}, api.Risen{Records: 1, Losers: 1}},
		{"a loser that was aborting and did nothing", func(s store) {
			s.lay(t, api.Rec{Kind: api.RecAbort, Tx: s.begin(t)})
		}, api.Risen{Records: 1, Losers: 1}},
		{"a winner", func(s store) {
			s.lay(t, api.Rec{Kind: api.RecCommit, Tx: s.begin(t)})
		}, api.Risen{Records: 1, Winners: 1}},
		{"a winner with changes, which are not taken back", func(s store) {
			n := s.begin(t)
			at := s.put(t, n, 5, "a")
			s.lay(t, api.Rec{Kind: api.RecCommit, Tx: n, Prev: at})
		}, api.Risen{Records: 2, Redone: 1, Winners: 1}},
		{"three winners and two losers", func(s store) {
			for n := range 5 {
				kind := []int{api.RecCommit, api.RecTop, api.RecCommit, api.RecAbort, api.RecCommit}[n]
				s.lay(t, api.Rec{Kind: kind, Tx: s.begin(t)})
			}
		}, api.Risen{Records: 5, Losers: 2, Winners: 3}},
		{"a loser with changes, which are taken back", func(s store) {
			n := s.begin(t)
			s.put(t, n, 5, "a")
			s.put(t, n, 5, "b")
			s.put(t, n, 6, "c")
		}, api.Risen{Records: 3, Redone: 3, Losers: 1, Undone: 3}},
		{"a loser with a change that can't be undone", func(s store) {
			n := s.begin(t)
			s.log(t, n, api.Change{Page: 5, Op: insert("a")})
			s.put(t, n, 5, "b")
			s.log(t, n, api.Change{Page: 6, Op: insert("c")})
		}, api.Risen{Records: 3, Redone: 3, Losers: 1, Undone: 1}},
	})
}

// 21.1: Undone counts what a compensation that is in the log already leads behind no more.
func TestUndoneBehindCompensations(t *testing.T) {
	for many := range 4 {
		wantCases(t, []case21{
			{"aborting", func(s store) {
				n := s.begin(t)
				s.put(t, n, 5, "a")
				s.put(t, n, 6, "b")
				s.put(t, n, 5, "c")
				if many < 3 {
					s.partly(t, n, many)
					return
				}
				wantErr(t, "Abort", undo.Abort(s.Manager, n), api.OK)
				// All but the end.
				last, _ := s.l.Last()
				s.flush(t)
				wantErr(t, "CutLog", s.d.CutLog(int(last)-1), api.OK)
			}, api.Risen{Records: 4 + many, Redone: 3 + many, Losers: 1, Undone: 3 - many}},
			{"active", func(s store) {
				n := s.begin(t)
				to := []api.LSN{s.put(t, n, 5, "a"), s.put(t, n, 6, "b"), s.put(t, n, 5, "c")}
				to = append([]api.LSN{0}, to...)
				wantErr(t, "To", undo.To(s.Manager, n, to[3-many]), api.OK)
			}, api.Risen{Records: 3 + many, Redone: 3 + many, Losers: 1, Undone: 3 - many}},
		})
	}
	// One that leads far behind: what is between counts for nothing.
	wantCases(t, []case21{{"far behind", func(s store) {
		n := s.begin(t)
		first := s.put(t, n, 5, "a")
		s.put(t, n, 6, "b")
		s.put(t, n, 7, "c")
		_, e := s.Compensate(n, 8, insert("d"), first)
		wantErr(t, "Compensate", e, api.OK)
		s.put(t, n, 9, "e")
	}, api.Risen{Records: 5, Redone: 5, Losers: 1, Undone: 2}}})
}

// 21.1: Records, and all else, by a checkpoint in the midst: of what stands ahead of it nothing but what it tells counts.
func TestRisenBehindCheckpoint(t *testing.T) {
	for _, x := range []struct {
		what string
		do   func(s store)
		want api.Risen
	}{
		{"nobody, nothing dirty", func(s store) {
			s.committed(t, func(n int) { s.put(t, n, 5, "a") })
			wantErr(t, "WriteAll", s.p.WriteAll(), api.OK)
			s.take(t)
		}, api.Risen{Records: 2}},
		{"nobody, pages dirty", func(s store) {
			s.committed(t, func(n int) { s.put(t, n, 5, "a"); s.put(t, n, 6, "b") })
			wantErr(t, "Write", s.p.Write(5), api.OK)
			s.take(t)
		}, api.Risen{Records: 2, Redone: 1}},
		{"one without a record", func(s store) {
			s.begin(t)
			s.take(t)
		}, api.Risen{Records: 2, Losers: 1}},
		{"losers, active and aborting, of which the checkpoint alone tells", func(s store) {
			one, two := s.begin(t), s.begin(t)
			s.put(t, one, 5, "a")
			s.put(t, two, 5, "b")
			s.put(t, two, 6, "c")
			s.partly(t, two, 1)
			wantErr(t, "WriteAll", s.p.WriteAll(), api.OK)
			s.take(t)
		}, api.Risen{Records: 2, Losers: 2, Undone: 2}},
		{"a loser that goes on behind it", func(s store) {
			n := s.begin(t)
			s.put(t, n, 5, "a")
			s.take(t)
			s.put(t, n, 5, "b")
		}, api.Risen{Records: 3, Redone: 2, Losers: 1, Undone: 2}},
		{"one that ends behind it", func(s store) {
			n := s.begin(t)
			s.put(t, n, 5, "a")
			s.take(t)
			wantErr(t, "Commit", s.Commit(n), api.OK)
		}, api.Risen{Records: 4, Redone: 1}},
		{"a winner whose end is not there", func(s store) {
			n := s.begin(t)
			at := s.put(t, n, 5, "a")
			s.take(t)
			s.lay(t, api.Rec{Kind: api.RecCommit, Tx: n, Prev: at})
		}, api.Risen{Records: 3, Redone: 1, Winners: 1}},
		{"two checkpoints", func(s store) {
			n := s.begin(t)
			s.put(t, n, 5, "a")
			s.take(t)
			s.put(t, n, 6, "b")
			wantErr(t, "WriteAll", s.p.WriteAll(), api.OK)
			s.take(t)
			s.put(t, n, 6, "c")
		}, api.Risen{Records: 3, Redone: 1, Losers: 1, Undone: 3}},
	} {
		s := fresh(t)
		x.do(s)
		s.flush(t)
		wantOpen(t, x.what, s.falls(), x.want)
	}
}

// 21.1: a winner told by a checkpoint alone, laid by hand: it is ended, and nothing of it is taken back.
func TestWinnerOfCheckpoint(t *testing.T) {
	s := fresh(t)
	n := s.begin(t)
	at := s.put(t, n, 5, "a")
	at = s.lay(t, api.Rec{Kind: api.RecCommit, Tx: n, Prev: at})
	begin := s.lay(t, api.Rec{Kind: api.RecBegin})
	s.lay(t, api.Rec{Kind: api.RecCheck, Tx: n, Txs: []api.TxState{{Tx: n, State: api.TxCommitted, Last: at, Next: at}}, Dirty: s.p.Dirty()})
	s.flush(t)
	wantErr(t, "SetMaster", s.l.SetMaster(begin), api.OK)
	s = wantOpen(t, "a winner", s.falls(), api.Risen{Records: 2, Redone: 1, Winners: 1})
	s.wantSlots(t, 5, "a")
}

// 21.1: the test of this stage, with its numbers: a table of a winner, and one of a loser, all written.
func TestTables(t *testing.T) {
	s := fresh(t)
	s.committed(t, func(n int) {
		_, e := catalog.Create(s.Manager, n, "a", 1)
		wantErr(t, "Create", e, api.OK)
	})
	_, e := catalog.Create(s.Manager, s.begin(t), "b", 1)
	wantErr(t, "Create", e, api.OK)
	s.write(t)
	s, r := opened(t, s.falls(), 8)
	// Of each: the map's bit, the page, the slot of the row, and the row; of these the slot alone is not taken back.
	if r != (api.Risen{Records: 2 + 4 + 2 + 4, Stood: 8, Losers: 1, Undone: 3}) {
		t.Errorf("%+v", r)
	}
	if l, e := catalog.All(s.Manager); len(l) != 1 || l[0].Name != "a" || e != api.OK {
		t.Error(l, e)
	}
}

// 21.1: what was told is of that standing up alone: behind it there is nothing to be done, in the same process and behind a fall.
func TestToldOnce(t *testing.T) {
	s := fresh(t)
	n := s.begin(t)
	s.put(t, n, 5, "a")
	s.lay(t, api.Rec{Kind: api.RecCommit, Tx: s.begin(t)})
	s.flush(t)
	s = wantOpen(t, "once", s.falls(), api.Risen{Records: 4 - 2 + 2, Redone: 1, Losers: 1, Winners: 1, Undone: 1})
	for range 3 {
		s = wantOpen(t, "again", s.d, api.Risen{Records: 2, Redone: 2})
		s = wantOpen(t, "behind a fall", s.falls(), api.Risen{Records: 2, Redone: 2})
	}
}

// nobody asks that transactions stand as in a manager that nobody used, but for what a number that comes is.
func wantNobody(t *testing.T, m *txn.Manager) {
	t.Helper()
	if len(m.All()) > 0 || len(m.Done()) > 0 || m.Pool().Log().Kept() != 0 {
		t.Error("All, Done, Kept:", m.All(), m.Done(), m.Pool().Log().Kept())
	}
}

// 21.1: of a manager behind standing up nobody is under way, nobody committed there, and nothing is kept, whatever was there ahead.
func TestNobody(t *testing.T) {
	s := fresh(t)
	for range 20 {
		s.put(t, s.begin(t), 5, "a")
	}
	s.partly(t, 5, 0)
	s.lay(t, api.Rec{Kind: api.RecCommit, Tx: 30})
	s.flush(t)
	m, r, e := restart.Open(s.falls(), 4, nil)
	if r.Losers != 20 || r.Winners != 1 || e != api.OK {
		t.Fatalf("%+v, %d", r, e)
	}
	wantNobody(t, m)
	for i := range api.MaxTx {
		if n, e := m.Begin(); n != 31+i || e != api.OK {
			t.Fatal("Begin:", n, e)
		}
	}
	if n, e := m.Begin(); n != 0 || e != api.ErrMany {
		t.Error("Begin:", n, e)
	}
	m, r, e = restart.Open(empty(t, room), 4, nil)
	if !r.Fresh || e != api.OK {
		t.Fatalf("%+v, %d", r, e)
	}
	// The one that laid the first pages committed there.
	if done := m.Done(); len(done) != 1 || done[0] != 1 || len(m.All()) > 0 || m.Pool().Log().Kept() != 0 || m.Coming() != 2 {
		t.Error(done, m.All(), m.Coming())
	}
}
