package redo_test

import (
	"fmt"
	"strings"
	"testing"

	"girder/api"
	"girder/rec"
)

// unread is bytes that are no record's.
func unread(t *testing.T) []string {
	t.Helper()
	none := []string{"\x00", "\xff", "what is no record", strings.Repeat("\x00", 13), strings.Repeat("\xff", api.MaxRecord)}
	for _, r := range append(others(), both(3, insert("a"))...) {
		s, e := rec.Encode(r)
		wantErr(t, "Encode", e, api.OK)
		none = append(none, s[:1], s[:len(s)-1], s+"\x00", "\x00"+s[1:], "\x09"+s[1:], s[:4]+"\x80"+s[5:])
	}
	return none
}

// 20.1: a record that can't be read is ErrRec, wherever it stands from Redo on, whatever is dirty; then nothing is changed, also where changes ahead of it could be done. What stands ahead of Redo is not met.
func TestUnread(t *testing.T) {
	for _, b := range unread(t) {
		for place := range 5 {
			s := bare(t, 4)
			var at []api.LSN
			for i := range 5 {
				if i == place {
					at = append(at, s.bytes(t, b))
				}
				at = append(at, s.put(t, update(3, insert(fmt.Sprint(i)))))
			}
			for from := range len(at) {
				f := api.Found{Dirty: dirty(1, 3), Redo: at[from]}
				if from <= place {
					s.wantRefused(t, fmt.Sprintf("%.40q at %d, from %d", b, place, from), f, api.ErrRec)
					f.Dirty = nil
					s.wantRefused(t, "nothing dirty", f, api.ErrRec)
					f.Dirty = dirty(far, 3, 8)
					s.wantRefused(t, "dirty behind it", f, api.ErrRec)
				}
			}
			s.wantRun(t, "behind it", api.Found{Dirty: dirty(1, 3), Redo: at[place+1]}, 5-place, 0)
		}
		if t.Failed() {
			t.FailNow()
		}
	}
}

// 20.1: a Redo at which no record begins can't be read: at each byte of the log.
func TestRedoIsNoRecord(t *testing.T) {
	s, at := rows(t, 3, 3)
	places := map[api.LSN]int{0: 1, s.l.End(): 1}
	for _, x := range at {
		places[x] = 1
	}
	for from := range s.l.End() {
		if places[from] == 0 {
			s.wantRefused(t, fmt.Sprint("from ", from), api.Found{Dirty: dirty(1, 3), Redo: from}, api.ErrRec)
			s.wantRefused(t, fmt.Sprint("from ", from), api.Found{Redo: from}, api.ErrRec)
		}
	}
}

// 20.1: ErrRec comes ahead of all that goes wrong with pages, wherever these stand.
func TestUnreadFirst(t *testing.T) {
	s := bare(t, 4)
	s.layBytes(t, 5, strings.Repeat("x", api.PageBytes))
	s.puts(t, update(3, api.Op{Kind: api.OpSet, S: "a", Old: "b"}), update(5, insert("a")), update(room+1, insert("a")), update(1<<32-1, insert("a")))
	s.bytes(t, "what is no record")
	f := api.Found{Dirty: dirty(1, 3, 5, room+1, 1<<32-1), Redo: 1}
	s.wantRefused(t, "much is wrong", f, api.ErrRec)
	s.d.Crash(api.Fall{})
	s.wantRefused(t, "the power is off", f, api.ErrRec)
}

// 20.1: a change that can't be repeated is ErrRedo, at each place, whatever Apply tells; by R2 nothing is changed then, in frames of few and of many.
func TestRunRefused(t *testing.T) {
	for _, op := range refused() {
		if _, e := rec.Encode(update(3, op)); e != api.OK {
			continue
		}
		for place := range 7 {
			for _, r := range both(3, op) {
				s := bare(t, 4+place)
				s.lay(t, sheet(3, 1, "b", "c"))
				wantErr(t, "Put", s.p.Put(sheet(1, 1, "a")), api.OK)
				s.put(t, others()[0])
				for i := range 7 {
					if i == place {
						s.put(t, r)
					}
					s.put(t, update([]api.Page{1, 2, 4, 5, 6, 7, 8}[i], insert("a")))
				}
				f := api.Found{Dirty: dirty(1, 1, 2, 3, 4, 5, 6, 7, 8), Redo: 1}
				s.wantRefused(t, fmt.Sprintf("%+v at %d", op, place), f, api.ErrRedo)
				// Where the page does not lack it, or is not dirty, it is not asked for.
				f.Dirty[2].LSN = far
				s.wantRun(t, "dirty behind it", f, 7, 0)
				wantErr(t, "Put", s.p.Put(sheet(3, far, "b", "c")), api.OK)
				f.Dirty[2].LSN = 1
				s.wantRun(t, "not lacked", f, 0, 8)
			}
		}
		if t.Failed() {
			t.FailNow()
		}
	}
}

// 20.1: a change that finds not what one ahead of it should have left, which was passed over: ErrRedo, and what was done to the page ahead of it in the same call is not there.
func TestRefusedByWhatIsAhead(t *testing.T) {
	s := bare(t, 4)
	at := s.puts(t,
		update(3, insert("a")), update(3, api.Op{Kind: api.OpSet, S: "b", Old: "a"}), clr(3, api.Op{Kind: api.OpSet, S: "c", Old: "b"}),
		update(3, insert("d")), update(3, api.Op{Kind: api.OpRemove, At: 1, Old: "c"}),
	)
	for from := 1; from < 4; from++ {
		s.wantRefused(t, fmt.Sprint("dirty from ", from), api.Found{Dirty: dirty(at[from], 3), Redo: 1}, api.ErrRedo)
		s.wantRefused(t, fmt.Sprint("from ", from), api.Found{Dirty: dirty(1, 3), Redo: at[from]}, api.ErrRedo)
	}
	s.wantRun(t, "all", api.Found{Dirty: dirty(1, 3), Redo: 1}, 5, 0)
	s.wantPage(t, api.Sheet{Number: 3, LSN: at[4], Slots: []string{"d"}})
}

// 20.1: the errors of the pool: of a page that may not be, that the disk has no room for, that can't be read, of a power that is off; nothing is changed. The first one by the log counts.
func TestRunPoolErrors(t *testing.T) {
	for n, want := range map[api.Page]api.Errno{
		api.MaxPages + 1: api.ErrArg, 1<<32 - 1: api.ErrArg, room + 1: api.ErrSpace, api.MaxPages: api.ErrSpace, 5: api.ErrCorrupt,
	} {
		for place := range 4 {
			s := bare(t, 4)
			s.layBytes(t, 5, strings.Repeat("x", api.PageBytes))
			s.layBytes(t, 6, strings.Repeat("x", api.PageBytes))
			for i := range 4 {
				if i == place {
					s.put(t, clr(n, api.Op{Kind: api.OpSet, S: "a", Old: "b"}))
				}
				s.put(t, update(api.Page(i+1), insert("a")))
			}
			f := api.Found{Dirty: dirty(1, 1, 2, 3, 4, n), Redo: 1}
			s.wantRefused(t, fmt.Sprint("page ", n, " at ", place), f, want)
			s.puts(t, update(6, insert("a")), update(1, api.Op{Kind: api.OpSet, S: "a", Old: "b"}), update(room+2, insert("a")), update(1<<32-2, insert("a")))
			f.Dirty = append(f.Dirty, dirty(1, 6, room+2, 1<<32-2)...)
			s.wantRefused(t, fmt.Sprint("page ", n, " at ", place), f, want)
			// With the power off the first page that must be read is the one that can't be, but for a number that may not be.
			off := api.ErrDead
			if place == 0 && want == api.ErrArg {
				off = api.ErrArg
			}
			s.d.Crash(api.Fall{})
			s.wantRefused(t, "the power is off", f, off)
			s.d.Up()
			s.wantRun(t, "the others", api.Found{Dirty: dirty(1, 2, 3, 4), Redo: 1}, 3, 0)
		}
	}
}

// 20.1: the power is off, and one page is in no frame: ErrDead, and those that are in frames stay as they were.
func TestRunDead(t *testing.T) {
	for away := range api.Page(4) {
		s := bare(t, 4)
		var l []api.Rec
		for n := range api.Page(4) {
			if n != away {
				wantErr(t, "Put", s.p.Put(sheet(n+1, 0, "b")), api.OK)
			}
			l = append(l, update(n+1, insert("a")))
		}
		s.puts(t, l...)
		s.d.Crash(api.Fall{})
		f := api.Found{Dirty: dirty(1, 1, 2, 3, 4), Redo: 1}
		s.wantRefused(t, "the power is off", f, api.ErrDead)
		s.d.Up()
		s.wantRun(t, "the power is back", f, 4, 0)
	}
}
