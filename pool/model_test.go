package pool_test

import (
	"math/rand"
	"slices"
	"strconv"
	"testing"

	"girder/api"
	"girder/disk"
	"girder/page"
	"girder/pool"
	"girder/wal"
)

// held is a page in a frame of the model.
type held struct {
	x     api.Sheet
	dirty bool
	since api.LSN
}

// model is a pool by the chapter's words, with what its disk has; the power does not fail there.
type model struct {
	most             int
	frames           []held // by rising numbers
	picks            []int
	disk             map[api.Page]api.Sheet
	fetched, written int
}

func (m *model) find(n api.Page) int {
	return slices.IndexFunc(m.frames, func(h held) bool { return h.x.Number == n })
}

func (m *model) add(h held) {
	m.frames = append(m.frames, h)
	slices.SortFunc(m.frames, func(a, b held) int { return int(a.x.Number) - int(b.x.Number) })
}

func (m *model) write(i int) api.Errno {
	h := &m.frames[i]
	if !h.dirty {
		return api.OK
	}
	if h.x.Number > room {
		return api.ErrSpace
	}
	m.disk[h.x.Number] = h.x
	h.dirty = false
	m.written++
	return api.OK
}

// leave makes room for one more.
func (m *model) leave() api.Errno {
	if len(m.frames) < m.most {
		return api.OK
	}
	at := 0
	if len(m.picks) > 0 {
		at = m.picks[0]
	}
	for at < 0 {
		at += m.most
	}
	at %= m.most
	if e := m.write(at); e != api.OK {
		return e
	}
	m.frames = slices.Delete(m.frames, at, at+1)
	if len(m.picks) > 0 {
		m.picks = m.picks[1:]
	}
	return api.OK
}

func (m *model) get(n api.Page) (api.Sheet, api.Errno) {
	if n < 1 || n > api.MaxPages {
		return api.Sheet{}, api.ErrArg
	}
	if i := m.find(n); i >= 0 {
		return m.frames[i].x, api.OK
	}
	if n > room {
		return api.Sheet{}, api.ErrSpace
	}
	x, ok := m.disk[n]
	if !ok {
		x = page.Blank(n)
	}
	if e := m.leave(); e != api.OK {
		return api.Sheet{}, e
	}
	m.add(held{x: x})
	m.fetched++
	return x, api.OK
}

func (m *model) put(x api.Sheet) api.Errno {
	if x.Number < 1 || x.Number > api.MaxPages || x.Kind > 255 {
		return api.ErrArg
	}
	i := m.find(x.Number)
	if i < 0 {
		if e := m.leave(); e != api.OK {
			return e
		}
		m.add(held{x: x, dirty: true, since: max(1, x.LSN)})
		return api.OK
	}
	if h := &m.frames[i]; !h.dirty {
		h.dirty, h.since = true, max(1, x.LSN)
	}
	m.frames[i].x = x
	return api.OK
}

func (m *model) writeAll() api.Errno {
	for i := range m.frames {
		if e := m.write(i); e != api.OK {
			return e
		}
	}
	return api.OK
}

func (m *model) drop(n api.Page) bool {
	i := m.find(n)
	if i < 0 || m.frames[i].dirty {
		return false
	}
	m.frames = slices.Delete(m.frames, i, i+1)
	return true
}

// walk is a pool, and the model of it.
type walk struct {
	t *testing.T
	r *rand.Rand
	d *disk.Disk
	l *wal.Log
	p *pool.Pool
	m model
	n int // of the next version
}

// some is a page's number, now and then one for which there is no room, or that may not be.
func (w *walk) some() api.Page {
	if w.r.Intn(20) == 0 {
		return []api.Page{0, api.MaxPages + 1}[w.r.Intn(2)]
	}
	most := []int{7, 10, room + 2}[w.r.Intn(3)]
	return api.Page(1 + w.r.Intn(most))
}

// step does one thing to both.
func (w *walk) step() {
	n := w.some()
	switch w.r.Intn(12) {
	case 0, 1, 2:
		x, e := w.p.Get(n)
		if want, err := w.m.get(n); e != err || !equal(x, want) {
			w.t.Errorf("Get(%d): %+v, %d, not %+v, %d", n, x, e, want, err)
		}
	case 3, 4, 5, 6:
		w.n++
		x := version(n, []api.LSN{0, record(w.t, w.l)}[w.r.Intn(2)], w.n)
		if w.r.Intn(20) == 0 {
			x.Kind = 256
		}
		wantErr(w.t, "Put of "+strconv.Itoa(int(n)), w.p.Put(x), w.m.put(x))
	case 7, 8:
		want := api.OK
		if i := w.m.find(n); i >= 0 {
			want = w.m.write(i)
		}
		wantErr(w.t, "Write", w.p.Write(n), want)
	case 9:
		wantErr(w.t, "WriteAll", w.p.WriteAll(), w.m.writeAll())
	case 10:
		if got, want := w.p.Drop(n), w.m.drop(n); got != want {
			w.t.Errorf("Drop(%d): %v", n, got)
		}
	default:
		picks := make([]int, w.r.Intn(8))
		for i := range picks {
			picks[i] = w.r.Intn(100) - 50
		}
		w.p.Picks(picks)
		w.m.picks = picks
	}
}

// look holds all that can be seen against the model.
func (w *walk) look() {
	var numbers []api.Page
	var dirty []api.Dirty
	for _, h := range w.m.frames {
		numbers = append(numbers, h.x.Number)
		if h.dirty {
			dirty = append(dirty, api.Dirty{Page: h.x.Number, LSN: h.since})
		}
		wantPage(w.t, w.p, h.x)
	}
	wantNumbers(w.t, w.p, numbers...)
	wantDirty(w.t, w.p, dirty...)
	wantCounts(w.t, w.p, w.m.fetched, w.m.written)
	if w.p.Disk() != w.d || w.p.Log() != w.l {
		w.t.Error("it stands on others")
	}
	wantLogged(w.t, w.d)
	if loose, _ := w.d.Loose(); loose != 0 {
		w.t.Error("loose:", loose)
	}
}

// 6.1 to 6.4: long walks of all calls; what the disk has at the end, when the power fails, is what was written.
func TestAgainstModel(t *testing.T) {
	for seed := range int64(80) {
		d, l := fresh(t, room)
		most := 4 + int(seed%4)
		w := &walk{t: t, r: rand.New(rand.NewSource(seed)), d: d, l: l, p: on(t, d, l, most)}
		w.m = model{most: most, disk: map[api.Page]api.Sheet{}}
		for step := range 150 {
			w.step()
			w.look()
			if t.Failed() {
				t.Fatalf("seed %d, step %d", seed, step)
			}
		}
		d.Crash(api.Fall{})
		d.Up()
		q := on(t, d, l, 4)
		for n := api.Page(1); n <= room; n++ {
			x, ok := w.m.disk[n]
			if !ok {
				x = page.Blank(n)
			}
			wantPage(t, q, x)
		}
	}
}
