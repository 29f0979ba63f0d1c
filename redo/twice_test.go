package redo_test

import (
	"fmt"
	"math/rand"
	"testing"

	"girder/api"
	"girder/disk"
	"girder/redo"
)

// pools is how many frames the pools have in which is repeated.
func pools() []int { return []int{4, 5, 9, 40, api.MaxFrames} }

// stand is what was repeated once: the pages, and how many changes were looked at.
type stand struct {
	pages map[api.Page]api.Sheet
	all   int
}

// once repeats history once.
func once(t *testing.T, d *disk.Disk) stand {
	t.Helper()
	s := over(t, d.Clone(), 64)
	f := s.found(t)
	did, all := s.due(t, f)
	s.wantRun(t, "once", f, did, all-did)
	x := stand{pages: map[api.Page]api.Sheet{}, all: all}
	for n := range api.Page(wide) {
		p, e := s.p.Get(n + 1)
		wantErr(t, "Get", e, api.OK)
		x.pages[n+1] = p
	}
	s.wantPages(t, "once", s.history(t))
	return x
}

// wantAgain asks that repeating once more does no more than is lacked, and makes the pages of repeating once.
func (s store) wantAgain(t *testing.T, what string, want stand) int {
	t.Helper()
	did, stood, e := s.run(t, s.found(t))
	if did+stood != want.all || e != api.OK {
		t.Fatalf("%s: %d, %d, %d, not %d in all", what, did, stood, e, want.all)
	}
	s.wantPages(t, what, want.pages)
	return did
}

// 20.2: a second time behind a first one: in the same pool, in another one over the disk as it is then, when all was written and when nothing more was, and behind a fall of the power.
func TestTwice(t *testing.T) {
	for seed := range int64(15) {
		d := fallen(t, 2000+seed)
		want := once(t, d)
		for _, first := range pools() {
			for _, second := range pools() {
				s := over(t, d.Clone(), first)
				s.p.Picks([]int{1, 2, 3, 0, 2, -1, 5})
				s.wantAgain(t, "a first time", want)
				if again := s.wantAgain(t, "in the same pool", want); again != 0 {
					t.Fatal("in the same pool were done:", again)
				}
				s.d.Crash(api.Fall{Keep: uint64(seed)})
				s.d.Up()
				s = over(t, s.d, second)
				s.wantAgain(t, "behind a fall", want)
				wantErr(t, "WriteAll", s.p.WriteAll(), api.OK)
				s = over(t, s.d, first)
				if again := s.wantAgain(t, "behind all was written", want); again != 0 {
					t.Fatal("behind all was written were done:", again)
				}
			}
		}
	}
}

// cut repeats until the power fails, at a call of the disk, while pages leave the pool, or all are written behind it: whether it did, and whether in the midst of repeating.
func (s store) cut(t *testing.T, fall api.Fall, want stand) (bool, bool) {
	t.Helper()
	s.p.Picks([]int{1, 2, 3, 0, 2, -1, 5})
	f := s.found(t)
	fall.At += s.d.Calls()
	s.d.Plan([]api.Fall{fall})
	did, stood, e := redo.Run(s.p, f)
	switch {
	case e == api.OK && did+stood != want.all, e != api.OK && did+stood != 0, e != api.OK && e != api.ErrDead:
		t.Fatalf("Run: %d, %d, %d; there are %d", did, stood, e, want.all)
	}
	within := e == api.ErrDead
	if !within {
		e = s.p.WriteAll()
	}
	s.d.Plan(nil)
	if dead := s.d.Dead(); dead != (e == api.ErrDead) {
		t.Fatalf("dead: %t, but %d", dead, e)
	}
	return s.d.Up(), within
}

// wantAgainIn asks for the same in a new pool, over the disk as it is, and for a second time in that.
func (s store) wantAgainIn(t *testing.T, what string, frames int, want stand) {
	t.Helper()
	other := over(t, s.d.Clone(), frames)
	other.wantAgain(t, fmt.Sprint(what, ", in ", frames, " frames"), want)
	if again := other.wantAgain(t, what+", and again", want); again != 0 {
		t.Fatal(what, "again were done:", again)
	}
}

// 20.2: behind a first time that was cut off by a fall of the power at each of its calls of the disk, whatever stays of what is loose: in the pool that was cut off, when the power is back, and in new ones of few frames and of many.
func TestBehindAFall(t *testing.T) {
	met, within := 0, 0
	for seed := range int64(3) {
		d := fallen(t, 3000+seed)
		want := once(t, d)
		r := rand.New(rand.NewSource(seed))
		for _, first := range pools() {
			for call, fell := 0, true; fell; call++ {
				for _, fall := range []api.Fall{{}, {Keep: 1}, {Torn: 1, Bytes: r.Intn(513)}, {Keep: r.Uint64(), Torn: r.Intn(3), Bytes: r.Intn(513)}} {
					fall.At = call
					s := over(t, d.Clone(), first)
					var in bool
					if fell, in = s.cut(t, fall, want); !fell {
						break
					}
					met++
					if in {
						within++
					}
					what := fmt.Sprintf("seed %d, %d frames, %+v", seed, first, fall)
					s.wantAgainIn(t, what, pools()[met%5], want)
					s.wantAgainIn(t, what, pools()[(met+2)%5], want)
					s.wantAgain(t, what+", in the same pool", want)
				}
			}
		}
	}
	if met-within < 300 || within < 300 {
		t.Error("falls behind repeating, and in its midst:", met-within, within)
	}
}

// 20.2: cut off again and again, each time somewhat later or earlier, in pools of other sizes: in the end the pages are those of repeating once.
func TestFallUponFall(t *testing.T) {
	met := 0
	for seed := range int64(60) {
		d := fallen(t, 4000+seed)
		want := once(t, d)
		r := rand.New(rand.NewSource(seed))
		for range 12 {
			s := over(t, d, pools()[r.Intn(len(pools()))])
			if fell, _ := s.cut(t, api.Fall{At: r.Intn(9), Keep: r.Uint64(), Torn: r.Intn(3), Bytes: r.Intn(513)}, want); fell {
				met++
			}
		}
		over(t, d, 4+r.Intn(5)).wantAgain(t, fmt.Sprint("seed ", seed), want)
	}
	if met < 200 {
		t.Error("falls:", met)
	}
}
