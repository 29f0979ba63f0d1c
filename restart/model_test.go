package restart_test

import (
	"maps"
	"slices"
	"testing"

	"girder/api"
	"girder/ckpt"
	"girder/disk"
	"girder/page"
	"girder/rec"
	"girder/space"
	"girder/wal"
)

// take takes a checkpoint.
func (s store) take(t *testing.T) api.LSN {
	t.Helper()
	at, e := ckpt.Take(s.Manager)
	wantErr(t, "Take", e, api.OK)
	return at
}

// model is what the chapters' words make of a disk that is to stand up.
type model struct {
	t       *testing.T
	risen   api.Risen
	txs     map[int]*api.TxState
	dirty   map[api.Page]api.LSN
	most    int
	all     map[api.LSN]api.Rec // of the log, from the first one on
	behind  []placed            // those that standing up put there
	pending map[int]api.LSN     // which record of each loser is undone next
}

// newModel is what a disk's log says, as the chapter of analysis has it.
func newModel(t *testing.T, was *disk.Disk, end api.LSN) *model {
	t.Helper()
	m := &model{t: t, txs: map[int]*api.TxState{}, dirty: map[api.Page]api.LSN{}, all: map[api.LSN]api.Rec{}, pending: map[int]api.LSN{}}
	l, torn, e := wal.Open(was)
	wantErr(t, "wal.Open", e, api.OK)
	if l.End() != end {
		t.Fatalf("the log that was there ends at %d, not %d", l.End(), end)
	}
	m.risen.Torn = torn
	for _, x := range records(t, l, max(l.Master(), 1)) {
		m.hear(x)
	}
	for at := api.LSN(1); at < l.End(); {
		s, behind, _ := l.Get(at)
		// What stands ahead of a checkpoint may be anything.
		if r, e := rec.Decode(s); e == api.OK {
			m.all[at] = r
		}
		at = behind
	}
	m.pages(over(t, was.Clone(), api.MaxFrames))
	return m
}

// hear takes what a record says.
func (m *model) hear(x placed) {
	m.risen.Records++
	m.most = max(m.most, x.r.Tx)
	if x.r.Kind == api.RecBegin {
		return
	}
	if x.r.Kind == api.RecCheck {
		for _, s := range x.r.Txs {
			m.most = max(m.most, s.Tx)
			if m.txs[s.Tx] == nil {
				m.txs[s.Tx] = &s
			}
		}
		for _, d := range x.r.Dirty {
			if at, dirty := m.dirty[d.Page]; !dirty || d.LSN < at {
				m.dirty[d.Page] = d.LSN
			}
		}
		return
	}
	if m.txs[x.r.Tx] == nil {
		m.txs[x.r.Tx] = &api.TxState{Tx: x.r.Tx, State: api.TxActive}
	}
	s := m.txs[x.r.Tx]
	s.Last = x.at
	switch x.r.Kind {
	case api.RecUpdate:
		s.Next = x.at
	case api.RecCLR, api.RecTop:
		s.Next = x.r.Next
	case api.RecCommit:
		s.State = api.TxCommitted
	case api.RecAbort:
		s.State = api.TxAborting
	case api.RecEnd:
		delete(m.txs, x.r.Tx)
	}
	if _, dirty := m.dirty[x.r.Page]; x.r.Page != 0 && !dirty {
		m.dirty[x.r.Page] = x.at
	}
}

// pages counts the changes that pages lack, and those that they have.
func (m *model) pages(s store) {
	m.t.Helper()
	lsn := map[api.Page]api.LSN{}
	for n := range m.dirty {
		x, e := s.p.Get(n)
		wantErr(m.t, "Get", e, api.OK)
		lsn[n] = x.LSN
	}
	for _, at := range slices.Sorted(maps.Keys(m.all)) {
		r := m.all[at]
		since, dirty := m.dirty[r.Page]
		switch {
		case r.Kind > api.RecCLR || !dirty || at < since:
		case lsn[r.Page] < at:
			m.risen.Redone++
			lsn[r.Page] = at
		default:
			m.risen.Stood++
		}
	}
}

// standing is the record that is undone next, from a place on; 0: none.
func (m *model) standing(at api.LSN) api.LSN {
	for at != 0 {
		r := m.all[at]
		switch {
		case r.Kind == api.RecUpdate && r.Undo != api.UndoNone:
			return at
		case r.Kind == api.RecCLR || r.Kind == api.RecTop:
			at = r.Next
		default:
			at = r.Prev
		}
	}
	return 0
}

// came is the next record that standing up put there.
func (m *model) came() placed {
	m.t.Helper()
	if len(m.behind) == 0 {
		m.t.Fatal("a record is missing")
	}
	x := m.behind[0]
	m.behind = m.behind[1:]
	return x
}

// wantOf asks for the next record of a transaction, as far as all of its kind are the same.
func (m *model) wantOf(s *api.TxState, kind int, next api.LSN) api.Rec {
	m.t.Helper()
	x := m.came()
	if x.r.Kind != kind || x.r.Tx != s.Tx || x.r.Prev != s.Last || x.r.Next != next {
		m.t.Fatalf("the record at %d: %+v, not kind %d of %+v, to %d", x.at, x.r, kind, *s, next)
	}
	s.Last = x.at
	m.all[x.at] = x.r
	return x.r
}

// states is the transactions that did not end, by their numbers.
func (m *model) states(committed bool) []*api.TxState {
	var l []*api.TxState
	for _, n := range slices.Sorted(maps.Keys(m.txs)) {
		if s := m.txs[n]; (s.State == api.TxCommitted) == committed {
			l = append(l, s)
		}
	}
	return l
}

// undone goes through what was taken back: always the record with the greatest place.
func (m *model) undone() {
	m.t.Helper()
	for _, s := range m.states(false) {
		m.pending[s.Tx] = m.standing(s.Next)
	}
	for {
		tx, at := 0, api.LSN(0)
		for n, x := range m.pending {
			if x > at {
				tx, at = n, x
			}
		}
		if at == 0 {
			return
		}
		r := m.all[at]
		m.wantBack(r, m.wantOf(m.txs[tx], api.RecCLR, r.Prev))
		m.risen.Undone++
		m.pending[tx] = m.standing(r.Prev)
	}
}

// wantBack asks that a compensation takes a record back.
func (m *model) wantBack(r, back api.Rec) {
	m.t.Helper()
	switch {
	case r.Undo == api.UndoKey:
		// Wherever the entry stands now; what trees have is asked for elsewhere.
		if back.Op.Kind != api.OpSet {
			m.t.Fatalf("%+v takes back %+v", back, r)
		}
	case r.Page == api.MapPage && r.Op.Kind == api.OpPut:
		if back.Page != r.Page || back.Op.At != r.Op.At || back.Op.S[0]^back.Op.Old[0] != r.Op.S[0]^r.Op.Old[0] {
			m.t.Fatalf("%+v takes back %+v", back, r)
		}
	case back.Page != r.Page || back.Op != page.Inverse(r.Op):
		m.t.Fatalf("%+v takes back %+v", back, r)
	}
}

// checkpoint asks for one, if there is room.
func (m *model) checkpoint(s store) {
	m.t.Helper()
	if len(m.behind) == 0 || m.behind[0].r.Kind != api.RecBegin {
		if 25+29+12*len(s.p.Dirty()) <= s.l.Room() {
			m.t.Fatal("there is no checkpoint")
		}
		return
	}
	begin, check := m.came(), m.came()
	if check.r.Kind != api.RecCheck || check.r.Tx != m.most || len(check.r.Txs) > 0 {
		m.t.Fatalf("behind %+v stands %+v", begin, check)
	}
}

// wantStoodUp asks that a store is what the chapter's words make of a disk, and that what was told is that.
func wantStoodUp(t *testing.T, was *disk.Disk, s store, told api.Risen) {
	t.Helper()
	was.Plan(nil)
	end := endOf(t, was)
	m := newModel(t, was, end)
	m.behind = records(t, s.l, end)
	m.risen.Winners, m.risen.Losers = len(m.states(true)), len(m.states(false))
	for _, x := range m.states(true) {
		m.wantOf(x, api.RecEnd, 0)
	}
	m.undone()
	for _, x := range m.states(false) {
		if x.State == api.TxActive {
			m.wantOf(x, api.RecAbort, 0)
		}
		m.wantOf(x, api.RecEnd, 0)
	}
	if len(m.txs) > 0 {
		m.checkpoint(s)
		if told.Fresh == (s.l.Flushed() == s.l.End()) {
			t.Fatalf("flushed up to %d, the end is %d", s.l.Flushed(), s.l.End())
		}
	}
	m.begun(told.Fresh, s)
	if len(m.behind) > 0 {
		t.Fatalf("what was not to be put: %+v", m.behind)
	}
	if m.risen != told {
		t.Fatalf("told: %+v, not %+v", told, m.risen)
	}
}

// begun asks for what lays the first pages, if it was told, and that they are there.
func (m *model) begun(told bool, s store) {
	m.t.Helper()
	m.risen.Fresh = told
	coming := m.most + 1
	if told {
		x := &api.TxState{Tx: coming}
		for range first {
			m.wantOf(x, api.RecUpdate, 0)
		}
		m.wantOf(x, api.RecCommit, 0)
		m.wantOf(x, api.RecEnd, 0)
		coming++
	}
	a, e := s.p.Get(api.MapPage)
	wantErr(m.t, "Get", e, api.OK)
	b, e := s.p.Get(api.RootPage)
	wantErr(m.t, "Get", e, api.OK)
	if !space.Is(a) || !space.Taken(a, 1) || !space.Taken(a, 2) || b.Kind != api.KindHeap {
		m.t.Fatalf("the first pages: %+v, %+v", a, b)
	}
	if s.Coming() != coming {
		m.t.Fatalf("the next number is %d, not %d", s.Coming(), coming)
	}
}

// endOf is where the log of a disk ends.
func endOf(t *testing.T, d *disk.Disk) api.LSN {
	t.Helper()
	l, _, e := wal.Open(d.Clone())
	wantErr(t, "wal.Open", e, api.OK)
	return l.End()
}
