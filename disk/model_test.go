package disk_test

import (
	"math"
	"math/rand"
	"testing"

	"girder/api"
	"girder/disk"
)

// model is a disk by the chapter's words, with no thought of speed: all loose writes are played anew at each question.
type model struct {
	pages   [2*api.MaxPages + 1]string
	mark    uint64
	loose   []func(*model)
	torn    []func(*model, int)
	log     string
	logSure int
	plan    []api.Fall
	calls   int
	dead    bool
}

func newModel() *model {
	m := &model{}
	for i := range m.pages {
		m.pages[i] = full(0)
	}
	return m
}

func (m *model) write(p api.Page, s string) {
	m.loose = append(m.loose, func(m *model) { m.pages[p] = s })
	m.torn = append(m.torn, func(m *model, n int) { m.pages[p] = s[:n] + m.pages[p][n:] })
}

func (m *model) setMark(n uint64) {
	m.loose = append(m.loose, func(m *model) { m.mark = n })
	m.torn = append(m.torn, func(*model, int) {})
}

func (m *model) fail(f api.Fall) {
	for i := range m.loose {
		if f.Torn > 0 && i == f.Torn-1 {
			m.torn[i](m, min(max(f.Bytes, 0), 512))
		} else if f.Keep&(1<<(i%64)) != 0 {
			m.loose[i](m)
		}
	}
	m.loose, m.torn = nil, nil
	stay := m.logSure
	for stay < len(m.log) && stay-m.logSure < f.Log {
		stay++
	}
	m.log, m.logSure, m.dead = m.log[:stay], stay, true
}

// call tells whether the power stays on at a call.
func (m *model) call() api.Errno {
	for i, f := range m.plan {
		if f.At == m.calls {
			m.plan = append(append([]api.Fall(nil), m.plan[:i]...), m.plan[i+1:]...)
			m.fail(f)
			return api.ErrDead
		}
	}
	m.calls++
	return api.OK
}

// seen is the model with its loose writes played.
func (m *model) seen() *model {
	x := *m
	for _, w := range m.loose {
		w(&x)
	}
	return &x
}

func someFall(r *rand.Rand, m *model) api.Fall {
	return api.Fall{
		At:    m.calls + r.Intn(6) - 1,
		Keep:  r.Uint64(),
		Torn:  r.Intn(len(m.loose)+4) - 1,
		Bytes: []int{-1, 0, 1, r.Intn(512), 512, 513}[r.Intn(6)],
		Log:   []int{-1, 0, 1, r.Intn(30), math.MaxInt}[r.Intn(5)],
	}
}

// move does the same thing to both: what each answered.
func move(r *rand.Rand, d *disk.Disk, m *model) (api.Errno, api.Errno) {
	kind := r.Intn(13)
	if m.dead && kind < 8 {
		return []func() api.Errno{
			func() api.Errno { return d.Write(1, full('q')) }, func() api.Errno { return d.SetMark(1) }, d.Sync,
			func() api.Errno { return d.AppendLog("q") }, d.SyncLog, func() api.Errno { return d.CutLog(0) },
		}[kind%6](), api.ErrDead
	}
	switch kind {
	case 0, 1, 2:
		p, s := api.Page(1+r.Intn(4)+r.Intn(2)*api.MaxPages), mixed(r.Intn(1000), 512)
		got, want := d.Write(p, s), m.call()
		if want == api.OK {
			m.write(p, s)
		}
		return got, want
	case 3:
		n := r.Uint64()
		got, want := d.SetMark(n), m.call()
		if want == api.OK {
			m.setMark(n)
		}
		return got, want
	case 4:
		if r.Intn(3) > 0 {
			return 0, 0
		}
		got, want := d.Sync(), m.call()
		if want == api.OK {
			*m = *m.seen()
			m.loose, m.torn = nil, nil
		}
		return got, want
	case 5:
		s := mixed(r.Intn(1000), r.Intn(20))
		got, want := d.AppendLog(s), m.call()
		if want == api.OK {
			m.log += s
		}
		return got, want
	case 6:
		got, want := d.SyncLog(), m.call()
		if want == api.OK {
			m.logSure = len(m.log)
		}
		return got, want
	case 7:
		n := r.Intn(len(m.log)+3) - 1
		if n < 0 || n > len(m.log) {
			return d.CutLog(n), api.ErrArg
		}
		got, want := d.CutLog(n), m.call()
		if want == api.OK {
			m.log, m.logSure = m.log[:n], n
		}
		return got, want
	case 8:
		m.plan = nil
		for range r.Intn(5) {
			m.plan = append(m.plan, someFall(r, m))
		}
		d.Plan(m.plan)
	case 9:
		if f := someFall(r, m); r.Intn(4) == 0 {
			d.Crash(f)
			if !m.dead {
				m.fail(f)
			}
		}
	default:
		if d.Up() != m.dead {
			return 0, 1
		}
		m.dead = false
	}
	return 0, 0
}

// agree holds all that is to be seen of a disk against the model.
func agree(t *testing.T, d *disk.Disk, m *model) {
	t.Helper()
	wantDead(t, d, m.dead)
	wantCalls(t, d, m.calls)
	wantLoose(t, d, len(m.loose), len(m.log)-m.logSure)
	if m.dead {
		return
	}
	x := m.seen()
	for p := range api.Page(5) {
		if p > 0 {
			wantPage(t, d, p, x.pages[p])
			wantPage(t, d, p+api.MaxPages, x.pages[p+api.MaxPages])
		}
	}
	wantMark(t, d, x.mark)
	wantLog(t, d, m.log)
}

// 2.1 to 2.4: long walks of all calls, on a disk, and on a clone that takes its place now and then.
func TestAgainstModel(t *testing.T) {
	for seed := range int64(40) {
		r := rand.New(rand.NewSource(seed))
		d, m := fresh(t, 8), newModel()
		for step := range 400 {
			if got, want := move(r, d, m); got != want {
				t.Fatalf("seed %d, step %d: %d, not %d", seed, step, got, want)
			}
			agree(t, d, m)
			if t.Failed() {
				t.Fatalf("seed %d, step %d", seed, step)
			}
			if r.Intn(10) == 0 {
				d = d.Clone()
			}
		}
	}
}
