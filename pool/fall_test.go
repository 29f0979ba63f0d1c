package pool_test

import (
	"math/rand"
	"slices"
	"strconv"
	"testing"

	"girder/api"
	"girder/disk"
	"girder/pool"
	"girder/wal"
)

// tears is how a write that is under way may end: gone, whole, or torn behind so many bytes.
func tears() []api.Fall {
	l := []api.Fall{{Keep: 0}, {Keep: 1}}
	for _, n := range []int{0, 1, 3, 4, 5, 12, 16, 17, 25, 40, 100, 300, 503, 504, 505, 511, 512} {
		l = append(l, api.Fall{Torn: 1, Bytes: n})
	}
	return l
}

// fewTears is some of them, for where each is tried with each other.
func fewTears() []api.Fall {
	return slices.DeleteFunc(tears(), func(f api.Fall) bool {
		return f.Torn > 0 && !slices.Contains([]int{4, 12, 100, 504, 511}, f.Bytes)
	})
}

// striking is a fall that ends so, at some calls behind now.
func striking(d *disk.Disk, tear api.Fall, in int) api.Fall {
	tear.At = d.Calls() + in
	return tear
}

// version is the page n as it is put the i-th time, with that LSN.
func version(n api.Page, lsn api.LSN, i int) api.Sheet {
	x := sheet(n, lsn, "version "+strconv.Itoa(i))
	for range i % 5 {
		x.Slots = append(x.Slots, "more")
	}
	return x
}

// crew is a disk with what stands on it, and which pages it may have.
type crew struct {
	t    *testing.T
	d    *disk.Disk
	l    *wal.Log
	p    *pool.Pool
	may  map[api.Page][]api.Sheet // as it was written last, and as it was to be, when the power failed
	next int                      // of the next version
	lsns bool                     // whether pages have LSNs that rise, or all 0
}

func (c *crew) stand() {
	c.t.Helper()
	c.l = opened(c.t, c.d)
	c.p = on(c.t, c.d, c.l, 4)
}

// change puts another version of a page, with a record ahead of it.
func (c *crew) change(n api.Page) api.Sheet {
	c.t.Helper()
	at := record(c.t, c.l)
	if !c.lsns {
		at = 0
	}
	c.next++
	x := version(n, at, c.next)
	put(c.t, c.p, x)
	return x
}

// rewrite changes a page and writes it: false, if the power failed.
func (c *crew) rewrite(n api.Page) bool {
	c.t.Helper()
	x := c.change(n)
	e := c.p.Write(n)
	if e == api.OK {
		c.may[n] = []api.Sheet{x}
		return true
	}
	wantErr(c.t, "Write", e, api.ErrDead)
	c.may[n] = append(c.may[n], x)
	return false
}

// rise turns the power on, stands up anew, and asks for all pages: each is one of those that it may be, and is that from then on.
func (c *crew) rise() {
	c.t.Helper()
	c.d.Up()
	c.stand()
	wantLogged(c.t, c.d)
	for n, may := range c.may {
		x, e := c.p.Get(n)
		i := slices.IndexFunc(may, func(y api.Sheet) bool { return equal(x, y) })
		if e != api.OK || i < 0 {
			c.t.Errorf("Get(%d): %+v, %d, none of %+v", n, x, e, may)
			continue
		}
		c.may[n] = may[i : i+1 : i+1]
	}
}

// manned is a crew with three pages that were never written.
func manned(t *testing.T, lsns bool) *crew {
	t.Helper()
	d, _ := fresh(t, room)
	c := &crew{t: t, d: d, may: map[api.Page][]api.Sheet{}, lsns: lsns}
	for n := api.Page(1); n <= 3; n++ {
		c.may[n] = []api.Sheet{{Number: n}}
	}
	c.stand()
	return c
}

// rounds writes all pages again and again, up to the fall.
func (c *crew) rounds(n int) {
	c.t.Helper()
	for range n {
		for n := api.Page(1); n <= 3; n++ {
			if !c.rewrite(n) {
				return
			}
		}
	}
}

// 6.4: pages are written again and again, and the power fails at each call, with each end of the write that is under way: each page can be fetched, and is as it was written last, or as it was to be.
func TestFallAtEachCall(t *testing.T) {
	for _, lsns := range []bool{true, false} {
		calls := 3 * 3 * 4
		if lsns {
			calls = 3 * 3 * 6
		}
		for at := range calls + 1 {
			for _, tear := range tears() {
				c := manned(t, lsns)
				tear.At, tear.Log = at, at%20
				c.d.Plan([]api.Fall{tear})
				c.rounds(3)
				if c.d.Dead() != (at < calls) {
					t.Fatalf("dead: %v", c.d.Dead())
				}
				c.rise()
				c.rounds(1)
				c.d.Crash(api.Fall{})
				c.rise()
				if t.Failed() {
					t.Fatalf("LSNs: %v, a fall %+v", lsns, tear)
				}
			}
		}
	}
}

// eachPair does something with each pair of ends, at each pair of calls.
func eachPair(t *testing.T, do func(one, two api.Fall)) {
	t.Helper()
	for first := range 6 {
		for second := range 6 {
			for _, one := range fewTears() {
				for _, two := range fewTears() {
					one.At, two.At = first, second
					do(one, two)
					if t.Failed() {
						t.Fatalf("falls %+v, %+v", one, two)
					}
				}
			}
		}
	}
}

// 6.4: a second and a third fall strike while the page is written that the one ahead struck.
func TestFallUponFall(t *testing.T) {
	for _, begun := range []bool{false, true} {
		eachPair(t, func(one, two api.Fall) {
			c := manned(t, true)
			if begun {
				c.rewrite(2)
			}
			for _, tear := range []api.Fall{one, two, one} {
				c.d.Plan([]api.Fall{striking(c.d, tear, tear.At)})
				c.rewrite(2)
				c.rise()
			}
		})
	}
}

// 6.2, 6.4: a pool whose Write was cut off goes on when the power is back: the page is dirty yet, may be changed again, and is written; and if that is cut off, too, nothing is lost.
func TestSamePoolGoesOn(t *testing.T) {
	for _, changes := range []bool{false, true} {
		eachPair(t, func(one, two api.Fall) {
			c := manned(t, true)
			c.rewrite(2)
			has := c.may[2][0]
			x := c.change(2)
			dirty := c.p.Dirty()
			for _, tear := range []api.Fall{one, two, one} {
				c.d.Plan([]api.Fall{striking(c.d, tear, tear.At)})
				e := c.p.Write(2)
				c.d.Up()
				if e == api.OK {
					break // the log was flushed ahead of the fall: there are fewer calls
				}
				wantErr(t, "Write", e, api.ErrDead)
				wantDirty(t, c.p, dirty...)
				wantPage(t, c.p, x)
				wantCounts(t, c.p, 0, 1)
				got, e := on(t, c.d, c.l, 4).Get(2)
				if e != api.OK || !equal(got, x) && !equal(got, has) {
					t.Errorf("fetched: %+v, %d", got, e)
				}
				has = got
				if changes {
					x = c.change(2)
				}
			}
			c.d.Plan(nil)
			wantErr(t, "Write at last", c.p.Write(2), api.OK)
			wantDirty(t, c.p)
			wantCounts(t, c.p, 0, 2)
			wantOnDisk(t, c.d, 2, coded(t, x), coded(t, x))
		})
	}
}

// 6.4: long walks with many falls: pages are changed and written by each way there is, the power fails now and then, with one write torn at most, and another pool stands up.
func TestManyFalls(t *testing.T) {
	for seed := range int64(40) {
		r := rand.New(rand.NewSource(seed))
		c := manned(t, seed%4 != 0)
		for fall := range 60 {
			tear := tears()[r.Intn(len(tears()))]
			if r.Intn(2) == 0 {
				tear = api.Fall{Torn: 1, Bytes: r.Intn(api.PageBytes + 1)}
			}
			tear.Log = r.Intn(60)
			c.d.Plan([]api.Fall{striking(c.d, tear, r.Intn(30))})
			for range 20 {
				if !c.rewrite(api.Page(1 + r.Intn(3))) {
					break
				}
			}
			c.rise()
			if t.Failed() {
				t.Fatalf("seed %d, fall %d: %+v", seed, fall, tear)
			}
		}
	}
}

// 6.4: with what the log has since: a page that was changed by records, and is told as it was written once, is made as it was by those that follow.
func TestLogHasTheRest(t *testing.T) {
	for at := range 40 {
		for _, tear := range tears() {
			c := manned(t, true)
			var done []api.Sheet
			tear.At = at
			c.d.Plan([]api.Fall{tear})
			for i := range 6 {
				done = append(done, c.change(2))
				if i%2 == 1 && c.p.Write(2) != api.OK {
					break
				}
			}
			flushed := c.l.Flushed()
			c.d.Up()
			c.stand()
			x, e := c.p.Get(2)
			wantErr(t, "Get", e, api.OK)
			if i := slices.IndexFunc(done, func(y api.Sheet) bool { return equal(x, y) }); i < 0 && !equal(x, api.Sheet{Number: 2}) {
				t.Errorf("fetched: %+v", x)
			}
			for _, y := range done {
				if _, _, ok := c.l.Get(y.LSN); !ok && (y.LSN < flushed || y.LSN <= x.LSN) {
					t.Errorf("the log has not %d", y.LSN)
				}
			}
			if t.Failed() {
				t.Fatalf("a fall %+v", tear)
			}
		}
	}
}
