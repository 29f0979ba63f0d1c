package wal_test

import (
	"math/rand"
	"slices"
	"strings"
	"testing"

	"girder/api"
	"girder/disk"
	"girder/wal"
)

// model is a log by the chapter's words: records, how many of them are flushed, and what is kept.
type model struct {
	records []string
	flushed int
	kept    int
}

func (m *model) room() int { return api.MaxLog - len(laid(m.records...)) }

// begins is where each record begins.
func (m *model) begins() []api.LSN {
	var l []api.LSN
	for i := range m.records {
		l = append(l, api.LSN(len(laid(m.records[:i]...))+1))
	}
	return l
}

// add is what Append answers, if so many bytes of the room are not for it.
func (m *model) add(s string, not int) (api.LSN, api.Errno) {
	if len(s) == 0 || len(s) > api.MaxRecord {
		return 0, api.ErrRecord
	}
	if len(s)+api.FrameBytes+not > m.room() {
		return 0, api.ErrLog
	}
	m.records = append(m.records, s)
	return m.begins()[len(m.records)-1], api.OK
}

// flushes tells whether a Flush has something to do.
func (m *model) flushes(to api.LSN) bool {
	for i, at := range m.begins() {
		if i >= m.flushed && at <= to {
			return true
		}
	}
	return false
}

// walk is a log, its disk and the model of it.
type walk struct {
	t *testing.T
	r *rand.Rand
	d *disk.Disk
	l *wal.Log
	m model
}

// place is some LSN: of a record, beside one, or of the end.
func (w *walk) place() api.LSN {
	all := append(w.m.begins(), w.l.End(), 0)
	return all[w.r.Intn(len(all))] + api.LSN(w.r.Intn(8)/6)
}

// length is that of some record, now and then one that may not be.
func (w *walk) length() int {
	return []int{0, 1, 1 + w.r.Intn(40), 1 + w.r.Intn(40), 1 + w.r.Intn(40), 1 + w.r.Intn(400), api.MaxRecord + 1}[w.r.Intn(7)]
}

// step does one thing to both.
func (w *walk) step() {
	switch w.r.Intn(9) {
	case 0, 1, 2:
		s := pattern(w.r.Intn(1000), w.length())
		at, e := w.l.Append(s)
		if want, err := w.m.add(s, w.m.kept); at != want || e != err {
			w.t.Errorf("Append: %d, %d, not %d, %d", at, e, want, err)
		}
	case 3:
		s := pattern(w.r.Intn(1000), w.length())
		at, e := w.l.Spend(s)
		want, err := w.m.add(s, 0)
		if at != want || e != err {
			w.t.Errorf("Spend: %d, %d, not %d, %d", at, e, want, err)
		}
		if err == api.OK {
			w.m.kept = max(0, w.m.kept-len(s)-12)
		}
	case 4:
		n := w.r.Intn(200) - 20
		want := api.OK
		if n < 0 {
			want = api.ErrArg
		} else {
			w.m.kept += n
		}
		wantErr(w.t, "Keep", w.l.Keep(n), want)
	case 5:
		n := w.r.Intn(200) - 20
		if n > 0 {
			w.m.kept = max(0, w.m.kept-n)
		}
		if got := w.l.Give(n); got != w.m.kept {
			w.t.Errorf("Give(%d): %d, not %d", n, got, w.m.kept)
		}
	case 6, 7:
		w.flush()
	default:
		w.setMaster()
	}
}

func (w *walk) flush() {
	to := w.place()
	if !w.m.flushes(to) {
		wantErr(w.t, "Flush", w.l.Flush(to), api.OK)
		return
	}
	falls := w.r.Intn(4) == 0
	if falls {
		w.d.Plan([]api.Fall{{At: w.d.Calls() + w.r.Intn(2), Log: w.r.Intn(300)}})
	}
	e := w.l.Flush(to)
	if !falls {
		wantErr(w.t, "Flush", e, api.OK)
		w.m.flushed = len(w.m.records)
		return
	}
	wantErr(w.t, "Flush", e, api.ErrDead)
	w.d.Up()
	if w.r.Intn(2) == 0 {
		w.reopen()
	}
}

// reopen opens the log anew: some of the records that are not flushed may be there.
func (w *walk) reopen() {
	has, _ := w.d.ReadLog()
	l, torn, e := wal.Open(w.d)
	if e != api.OK || l.Len() < w.m.flushed || l.Len() > len(w.m.records) || len(laid(w.m.records[:l.Len()]...))+torn != len(has) {
		w.t.Fatalf("Open: %d torn, %d", torn, e)
	}
	w.l = l
	w.m = model{records: w.m.records[:l.Len():l.Len()], flushed: l.Len()}
}

func (w *walk) setMaster() {
	at := w.place()
	i := slices.Index(w.m.begins(), at)
	if i < 0 || i >= w.m.flushed {
		wantErr(w.t, "SetMaster", w.l.SetMaster(at), api.ErrPlace)
		return
	}
	wantErr(w.t, "SetMaster", w.l.SetMaster(at), api.OK)
	wantMaster(w.t, w.l, at)
}

// 5.1 to 5.5: long walks of all calls, with falls now and then, behind which the same log goes on, or one opened anew.
func TestAgainstModel(t *testing.T) {
	for seed := range int64(60) {
		w := &walk{t: t, r: rand.New(rand.NewSource(seed)), d: fresh(t)}
		w.l = opened(t, w.d)
		for step := range 120 {
			w.step()
			wantAll(t, w.l, w.m.flushed, w.m.kept, w.m.records...)
			has, _ := w.d.ReadLog()
			if !strings.HasPrefix(has, laid(w.m.records[:w.m.flushed]...)) || !strings.HasPrefix(laid(w.m.records...), has) {
				t.Errorf("the disk has %d bytes", len(has))
			}
			if t.Failed() {
				t.Fatalf("seed %d, step %d", seed, step)
			}
		}
	}
}

// 5.1, 5.5: scattered bytes are no log, and no reason to panic: what Open takes of them is a log.
func TestOpenScattered(t *testing.T) {
	r := rand.New(rand.NewSource(1))
	for range 3000 {
		b := []byte(laid(pattern(r.Intn(99), 1+r.Intn(30)), pattern(r.Intn(99), 1+r.Intn(30))))
		for range r.Intn(4) {
			b[r.Intn(len(b))] = byte(r.Intn(256))
		}
		d := holding(t, string(b[:r.Intn(len(b)+1)]))
		was, _ := d.ReadLog()
		l, torn, e := wal.Open(d)
		if e != api.OK || laid(recordsOf(l)...) != was[:len(was)-torn] || l.Len() != len(recordsOf(l)) {
			t.Fatalf("%q: %d torn, %d", was, torn, e)
		}
		wantDisk(t, d, was[:len(was)-torn])
	}
}
