package analyze_test

import (
	"fmt"
	"strings"
	"testing"

	"girder/api"
	"girder/rec"
)

// unread is bytes that are no record's, each by itself.
func unread(t *testing.T) []string {
	t.Helper()
	none := []string{"\x00", "\xff", "what is no record", strings.Repeat("\x00", 13), strings.Repeat("\x09", 13), strings.Repeat("\xff", api.MaxRecord)}
	for _, r := range []api.Rec{
		update(3, 5), updates(3, 5)[2], clr(3, 5, 9), top(3, 9), plain(api.RecCommit, 3), plain(api.RecAbort, 3), plain(api.RecEnd, 3), plain(api.RecBegin, 0),
		check(3, []api.TxState{active(3, 1, 1)}, api.Dirty{Page: 5, LSN: 1}),
	} {
		s, e := rec.Encode(r)
		wantErr(t, "Encode", e, api.OK)
		none = append(none, s[:1], s[:len(s)-1], s+"\x00", s+s, "\x00"+s[1:], "\x09"+s[1:], s[:4]+"\x80"+s[5:])
	}
	// A state, and how a change is undone, that are none.
	bad, _ := rec.Encode(check(3, []api.TxState{active(3, 1, 1)}))
	none = append(none, bad[:19]+"\x00"+bad[20:], bad[:19]+"\x04"+bad[20:])
	bad, _ = rec.Encode(update(3, 5))
	return append(none, bad[:len(bad)-1]+"\x03")
}

// 19.1: a record that can't be read is ErrRec, wherever it stands behind the master: the first one, in the midst, the last one, in the tail or flushed.
func TestUnread(t *testing.T) {
	good := []api.Rec{update(1, 3), clr(1, 4, 0), check(9, nil), plain(api.RecEnd, 1)}
	for _, b := range unread(t) {
		for place := range len(good) + 1 {
			for _, flush := range []bool{false, true} {
				s := bare(t)
				for i := range len(good) + 1 {
					if i == place {
						s.bytes(t, b)
					}
					if i < len(good) {
						s.put(t, good[i])
					}
				}
				if flush {
					wantErr(t, "Flush", s.l.Flush(s.l.End()), api.OK)
					s = again(t, s.d)
				}
				s.wantRec(t, fmt.Sprintf("%.40q at %d", b, place))
			}
		}
		if t.Failed() {
			t.FailNow()
		}
	}
}

// 19.1: it is ErrRec with a master ahead of it, or just there; what stands ahead of the master is not gone through.
func TestUnreadAndMaster(t *testing.T) {
	for _, b := range unread(t) {
		s := bare(t)
		first := s.put(t, update(1, 3))
		none := s.bytes(t, b)
		begin := s.put(t, plain(api.RecBegin, 0))
		s.put(t, check(1, []api.TxState{active(1, 1, 1)}, api.Dirty{Page: 3, LSN: 1}))
		s.wantRec(t, "without a master")
		for _, at := range []api.LSN{first, none} {
			s.master(t, at)
			s.wantRec(t, fmt.Sprintf("%.40q, the master is %d", b, at))
		}
		s.master(t, begin)
		want := api.Found{Txs: []api.TxState{active(1, 1, 1)}, Dirty: []api.Dirty{{Page: 3, LSN: 1}}, Redo: 1, Most: 1, Records: 2}
		s.wantFound(t, fmt.Sprintf("%.40q ahead of the master", b), want)
		s.bytes(t, b)
		s.wantRec(t, fmt.Sprintf("%.40q ahead of the master and behind it", b))
		if t.Failed() {
			t.FailNow()
		}
	}
}

// 19.1: bytes without a right frame are no record's: the log ends ahead of them.
func TestTorn(t *testing.T) {
	s, _ := with(t, update(1, 3), update(2, 4))
	wantErr(t, "Flush", s.l.Flush(s.l.End()), api.OK)
	want, _ := s.run(t)
	s.bytes(t, "what is no record")
	s.put(t, update(3, 5))
	for stay := range 30 {
		d := s.d.Clone()
		l := again(t, d)
		l.bytes(t, "what is no record")
		d.Plan([]api.Fall{{At: d.Calls() + 1, Log: stay}})
		l.l.Flush(l.l.End())
		d.Up()
		if s := again(t, d); stay < 29 {
			s.wantFound(t, fmt.Sprint(stay, " bytes of it"), want)
		} else {
			s.wantRec(t, "all of it")
		}
	}
}
