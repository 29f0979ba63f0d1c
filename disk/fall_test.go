package disk_test

import (
	"math"
	"testing"

	"girder/api"
	"girder/disk"
)

// 2.3: the chapter's example, and the edges of Bytes.
func TestTornPage(t *testing.T) {
	a, b := mixed(1, 512), mixed(2, 512)
	for _, c := range []struct{ bytes, stay int }{
		{math.MinInt, 0}, {-1, 0}, {0, 0}, {1, 1}, {100, 100}, {511, 511}, {512, 512}, {513, 512}, {math.MaxInt, 512},
	} {
		for _, keep := range []uint64{0, 1, math.MaxUint64} {
			d := fresh(t, 8)
			d.Write(1, a)
			d.Sync()
			d.Write(1, b)
			crashUp(t, d, api.Fall{Keep: keep, Torn: 1, Bytes: c.bytes})
			wantPage(t, d, 1, b[:c.stay]+a[c.stay:])
			wantLoose(t, d, 0, 0)
			crashUp(t, d, api.Fall{})
			wantPage(t, d, 1, b[:c.stay]+a[c.stay:])
		}
	}
}

// 2.3: behind the torn bytes stands what those ahead of it made sure, and zeros if none did; writes behind it count.
func TestTornOverOthers(t *testing.T) {
	a, b, c, z := mixed(1, 512), mixed(2, 512), mixed(3, 512), full(0)
	for _, x := range []struct {
		fall api.Fall
		want string
	}{
		{api.Fall{Keep: 0b000, Torn: 2, Bytes: 100}, b[:100] + z[100:]},
		{api.Fall{Keep: 0b001, Torn: 2, Bytes: 100}, b[:100] + a[100:]},
		{api.Fall{Keep: 0b011, Torn: 2, Bytes: 100}, b[:100] + a[100:]},
		{api.Fall{Keep: 0b101, Torn: 2, Bytes: 100}, c},
		{api.Fall{Keep: 0b011, Torn: 3, Bytes: 7}, c[:7] + b[7:]},
		{api.Fall{Keep: 0b001, Torn: 3, Bytes: 7}, c[:7] + a[7:]},
		{api.Fall{Keep: 0b000, Torn: 3, Bytes: 7}, c[:7] + z[7:]},
		{api.Fall{Keep: 0b000, Torn: 1, Bytes: 512}, a},
		{api.Fall{Keep: 0b110, Torn: 1, Bytes: 512}, c},
		{api.Fall{Keep: 0b010, Torn: 1, Bytes: 512}, b},
	} {
		d := fresh(t, 8)
		d.Write(3, a)
		d.Write(3, b)
		d.Write(3, c)
		crashUp(t, d, x.fall)
		wantPage(t, d, 3, x.want)
		wantPage(t, d, 2, z)
		wantPage(t, d, 4, z)
	}
}

// 2.3: Torn of 0, below it, and past the last loose write tears nothing.
func TestTornNone(t *testing.T) {
	for _, torn := range []int{0, -1, math.MinInt, 3, 4, math.MaxInt, 65, 66} {
		d := fresh(t, 8)
		d.Write(1, full('a'))
		d.Write(2, full('b'))
		crashUp(t, d, api.Fall{Keep: 2, Torn: torn, Bytes: 300})
		wantPage(t, d, 1, full(0))
		wantPage(t, d, 2, full('b'))
	}
}

// 2.3: of a torn mark nothing stays, whatever Keep and Bytes say.
func TestTornMark(t *testing.T) {
	for _, bytes := range []int{-1, 0, 1, 8, 512, 513} {
		d := fresh(t, 8)
		d.SetMark(1)
		d.Sync()
		d.SetMark(2)
		d.SetMark(math.MaxUint64)
		d.Write(1, full('a'))
		crashUp(t, d, api.Fall{Keep: 0b111, Torn: 2, Bytes: bytes})
		wantMark(t, d, 2)
		wantPage(t, d, 1, full('a'))

		d.SetMark(9)
		crashUp(t, d, api.Fall{Keep: 1, Torn: 1, Bytes: bytes})
		wantMark(t, d, 2)
	}
}

// 2.3: which loose writes stay, those of the mark among them; in order, so that the last that stays counts.
func TestKeep(t *testing.T) {
	for keep := range uint64(16) {
		d := fresh(t, 8)
		d.Write(1, full('s'))
		d.SetMark(1)
		d.Sync()
		d.Write(1, full('a'))
		d.SetMark(2)
		d.Write(1, full('b'))
		d.SetMark(3)
		crashUp(t, d, api.Fall{Keep: keep})
		page, mark := full('s'), uint64(1)
		if keep&1 != 0 {
			page = full('a')
		}
		if keep&2 != 0 {
			mark = 2
		}
		if keep&4 != 0 {
			page = full('b')
		}
		if keep&8 != 0 {
			mark = 3
		}
		wantPage(t, d, 1, page)
		wantMark(t, d, mark)
		wantLoose(t, d, 0, 0)
		crashUp(t, d, api.Fall{})
		wantPage(t, d, 1, page)
		wantMark(t, d, mark)
	}
}

// 2.3: the bits of Keep come again behind 64 loose writes.
func TestKeepBeyond64(t *testing.T) {
	const n = 150
	for _, keep := range []uint64{0, 1, 1 << 63, 1 << 20, 0xf0f0f0f0f0f0f0f0, math.MaxUint64} {
		d := fresh(t, api.MaxPages)
		for i := range n {
			d.Write(api.Page(i+1), mixed(i, 512))
		}
		wantLoose(t, d, n, 0)
		crashUp(t, d, api.Fall{Keep: keep, Torn: 130, Bytes: 10})
		for i := range n {
			want := full(0)
			if keep>>(i%64)&1 == 1 {
				want = mixed(i, 512)
			}
			if i == 129 {
				want = mixed(i, 512)[:10] + full(0)[10:]
			}
			wantPage(t, d, api.Page(i+1), want)
		}
	}
}

// 2.3: how many of the log's loose bytes stay; those that were synced all do.
func TestFallLog(t *testing.T) {
	for _, c := range []struct {
		log  int
		want string
	}{
		{math.MinInt, "sure"}, {-1, "sure"}, {0, "sure"}, {1, "surel"}, {3, "sureloo"}, {4, "sureloos"}, {5, "sureloose"},
		{6, "sureloose"}, {math.MaxInt, "sureloose"},
	} {
		d := fresh(t, 8)
		d.AppendLog("sure")
		d.SyncLog()
		d.AppendLog("loo")
		d.AppendLog("se")
		crashUp(t, d, api.Fall{Log: c.log})
		wantLog(t, d, c.want)
		wantLoose(t, d, 0, 0)
		d.AppendLog("!")
		wantLog(t, d, c.want+"!")
		wantLoose(t, d, 0, 1)
		crashUp(t, d, api.Fall{})
		wantLog(t, d, c.want)
	}
}

// calls are the calls that count, by their names.
func calls() []struct {
	name string
	do   func(*disk.Disk) api.Errno
} {
	return []struct {
		name string
		do   func(*disk.Disk) api.Errno
	}{
		{"Write", func(d *disk.Disk) api.Errno { return d.Write(1, full('w')) }},
		{"SetMark", func(d *disk.Disk) api.Errno { return d.SetMark(77) }},
		{"Sync", (*disk.Disk).Sync},
		{"AppendLog", func(d *disk.Disk) api.Errno { return d.AppendLog("w") }},
		{"AppendLog of nothing", func(d *disk.Disk) api.Errno { return d.AppendLog("") }},
		{"SyncLog", (*disk.Disk).SyncLog},
		{"CutLog", func(d *disk.Disk) api.Errno { return d.CutLog(1) }},
	}
}

// 2.3: a fall strikes ahead of the call with its number: nothing of the call is done, and it does not count.
func TestFallAtEachCall(t *testing.T) {
	for _, c := range calls() {
		d := fresh(t, 8)
		d.Write(2, full('s'))
		d.AppendLog("log")
		d.Plan([]api.Fall{{At: 2, Log: 2}})
		wantCalls(t, d, 2)
		wantErr(t, c.name, c.do(d), api.ErrDead)
		wantDead(t, d, true)
		wantCalls(t, d, 2)
		wantLoose(t, d, 0, 0)
		wantErr(t, c.name+" when it is dead", c.do(d), api.ErrDead)
		d.Up()
		wantPage(t, d, 1, full(0))
		wantPage(t, d, 2, full(0))
		wantMark(t, d, 0)
		wantLog(t, d, "lo")
		wantErr(t, c.name+" again", c.do(d), api.OK)
		wantCalls(t, d, 3)
		wantDead(t, d, false)
	}
}

// 2.3: calls that tell, and those about the power, count not and meet no fall.
func TestCallsThatCountNot(t *testing.T) {
	d := fresh(t, 8)
	d.Plan([]api.Fall{{At: 0}})
	d.Read(1)
	d.Mark()
	d.ReadLog()
	d.Dead()
	d.Up()
	d.Calls()
	d.Loose()
	d.Room()
	d.Clone()
	d.Crash(api.Fall{})
	d.Up()
	wantCalls(t, d, 0)
	wantErr(t, "Sync", d.Sync(), api.ErrDead)
}

// 2.3: a call that is refused for another cause counts not, and meets no fall.
func TestRefusedCallsMeetNoFall(t *testing.T) {
	d := fresh(t, 8)
	d.AppendLog("log")
	d.Plan([]api.Fall{{At: 1}})
	wantErr(t, "short page", d.Write(1, full('a')[1:]), api.ErrArg)
	wantErr(t, "page 0", d.Write(0, full('a')), api.ErrArg)
	wantErr(t, "page past the room", d.Write(9, full('a')), api.ErrSpace)
	wantErr(t, "long log", d.AppendLog(mixed(0, api.MaxLog-2)), api.ErrSpace)
	wantErr(t, "cut below 0", d.CutLog(-1), api.ErrArg)
	wantErr(t, "cut past the end", d.CutLog(4), api.ErrArg)
	wantDead(t, d, false)
	wantCalls(t, d, 1)
	wantLog(t, d, "log")
	wantErr(t, "cut", d.CutLog(3), api.ErrDead)
	wantDead(t, d, true)
}

// 2.3: of several at one call the first of the plan strikes, the next one when the call comes again.
func TestSeveralFallsAtOneCall(t *testing.T) {
	d := fresh(t, 8)
	d.Plan([]api.Fall{{At: 9, Log: 3}, {At: 1, Log: 2}, {At: 1, Log: 0}, {At: 0, Log: 9}, {At: 1, Log: 1}})
	wantErr(t, "call 0", d.AppendLog("abc"), api.ErrDead)
	d.Up()
	wantErr(t, "call 0 again", d.AppendLog("abc"), api.OK)
	wantErr(t, "call 1", d.SyncLog(), api.ErrDead)
	d.Up()
	wantLog(t, d, "ab")
	wantErr(t, "call 1 again", d.Sync(), api.ErrDead)
	d.Up()
	wantErr(t, "call 1 once more", d.AppendLog("def"), api.ErrDead)
	d.Up()
	wantLog(t, d, "ab")
	wantErr(t, "call 1 at last", d.AppendLog("def"), api.OK)
	wantCalls(t, d, 2)
	for d.Calls() < 9 {
		wantErr(t, "Sync", d.Sync(), api.OK)
	}
	wantErr(t, "call 9", d.Sync(), api.ErrDead)
	d.Up()
	wantLog(t, d, "abdef")
	wantErr(t, "call 9 again", d.Sync(), api.OK)
}

// 2.3: falls at numbers that are past, or below 0, never strike.
func TestFallsThatArePast(t *testing.T) {
	d := fresh(t, 8)
	d.Sync()
	d.Sync()
	d.Plan([]api.Fall{{At: -1}, {At: 0}, {At: 1}, {At: math.MinInt}, {At: 3}, {At: math.MaxInt}})
	wantErr(t, "call 2", d.Sync(), api.OK)
	wantErr(t, "call 3", d.Sync(), api.ErrDead)
	d.Up()
	for range 20 {
		wantErr(t, "later calls", d.Sync(), api.OK)
	}
}

// 2.3: a plan stands in the place of the one ahead, whole; it counts calls of the disk's life.
func TestPlanAnew(t *testing.T) {
	d := fresh(t, 8)
	d.Plan([]api.Fall{{At: 0}, {At: 1}})
	d.Plan([]api.Fall{{At: 2}})
	wantErr(t, "call 0", d.Sync(), api.OK)
	wantErr(t, "call 1", d.Sync(), api.OK)
	wantErr(t, "call 2", d.Sync(), api.ErrDead)
	d.Plan([]api.Fall{{At: 2, Log: 1}})
	d.Up()
	wantErr(t, "call 2 by a plan laid when it was dead", d.Sync(), api.ErrDead)
	d.Up()
	d.Plan([]api.Fall{{At: 2}, {At: 3}})
	d.Plan(nil)
	wantErr(t, "call 2", d.Sync(), api.OK)
	wantErr(t, "call 3", d.Sync(), api.OK)
	d.Plan([]api.Fall{{At: 4}})
	d.Plan([]api.Fall{})
	wantErr(t, "call 4", d.Sync(), api.OK)
}

// R4: the list of a plan is neither kept nor changed, its spare room neither.
func TestPlanKeepsNoList(t *testing.T) {
	d := fresh(t, 8)
	room := []api.Fall{{At: 5}, {At: 1}, {At: 0}, {At: 7}}
	d.Plan(room[:3])
	for i, at := range []int{5, 1, 0, 7} {
		if room[i] != (api.Fall{At: at}) {
			t.Errorf("changed: %v", room)
		}
	}
	room[0].At, room[1].At, room[2].At = 50, 50, 50
	wantErr(t, "call 0", d.Sync(), api.ErrDead)
	d.Up()
	wantErr(t, "call 0 again", d.Sync(), api.OK)
	wantErr(t, "call 1", d.Sync(), api.ErrDead)
	if room[0].At != 50 || room[1].At != 50 || room[2].At != 50 || room[3].At != 7 {
		t.Errorf("changed: %v", room)
	}
}

// 2.3: a crash by hand looks at no number, leaves the plan, and does nothing to a dead disk.
func TestCrashByHand(t *testing.T) {
	d := fresh(t, 8)
	d.Plan([]api.Fall{{At: 1, Keep: 1}})
	d.Write(1, full('a'))
	d.AppendLog("x")
	wantDead(t, d, true)
	d.Crash(api.Fall{Keep: 0, Log: 5, At: 1})
	if !d.Up() {
		t.Error("Up: false")
	}
	wantPage(t, d, 1, full('a'))
	wantLog(t, d, "")
	wantCalls(t, d, 1)

	d.Plan([]api.Fall{{At: 3}})
	d.Write(1, full('b'))
	d.AppendLog("yz")
	crashUp(t, d, api.Fall{At: 99, Torn: 1, Bytes: 2, Log: 1})
	wantPage(t, d, 1, "bb"+full('a')[2:])
	wantLog(t, d, "y")
	wantCalls(t, d, 3)
	wantErr(t, "the plan stands", d.Sync(), api.ErrDead)
	d.Up()
	wantErr(t, "and struck once", d.Sync(), api.OK)
	if d.Up() {
		t.Error("Up of a disk that is not dead")
	}
}

// 2.4: what was synced stays, whatever falls.
func TestSyncedStays(t *testing.T) {
	for _, f := range []api.Fall{{}, {Keep: math.MaxUint64}, {Torn: 1, Bytes: 512}, {Torn: 2, Bytes: 1, Keep: 5, Log: 3}, {Log: -5, Torn: -5}} {
		d := fresh(t, 8)
		d.Write(1, mixed(1, 512))
		d.Write(2, mixed(2, 512))
		d.SetMark(7)
		d.AppendLog("synced")
		d.Sync()
		d.SyncLog()
		d.Write(3, full('l'))
		d.Write(4, full('l'))
		d.AppendLog("loose")
		crashUp(t, d, f)
		crashUp(t, d, f)
		wantPage(t, d, 1, mixed(1, 512))
		wantPage(t, d, 2, mixed(2, 512))
		wantMark(t, d, 7)
		if s, _ := d.ReadLog(); len(s) < 6 || s[:6] != "synced" {
			t.Errorf("log %q", s)
		}
	}
}
