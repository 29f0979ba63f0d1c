package disk_test

import (
	"testing"
	"unsafe"

	"girder/api"
	"girder/disk"
)

// stirred is a disk that has something of everything: 6 calls, 3 loose writes, 5 loose bytes, a plan.
func stirred(t *testing.T) *disk.Disk {
	t.Helper()
	d := fresh(t, 16)
	d.Write(1, full('a'))
	d.Sync()
	d.Write(1, full('b'))
	d.Write(2, full('c'))
	d.SetMark(5)
	d.AppendLog("loose")
	d.Plan([]api.Fall{{At: 8, Keep: 0b101}, {At: 8, Keep: 0, Log: 2}, {At: 9}})
	return d
}

// wantStirred asks for all that is to be seen of such a disk, and plays it to its end.
func wantStirred(t *testing.T, d *disk.Disk) {
	t.Helper()
	if d.Room() != 16 {
		t.Error("Room:", d.Room())
	}
	wantDead(t, d, false)
	wantCalls(t, d, 6)
	wantLoose(t, d, 3, 5)
	wantPage(t, d, 1, full('b'))
	wantPage(t, d, 2, full('c'))
	wantPage(t, d, 3, full(0))
	wantMark(t, d, 5)
	wantLog(t, d, "loose")
	wantErr(t, "call 6", d.AppendLog("r"), api.OK)
	wantErr(t, "call 7", d.Write(3, full('d')), api.OK)
	wantErr(t, "call 8", d.Sync(), api.ErrDead)
	d.Up()
	wantPage(t, d, 1, full('b'))
	wantPage(t, d, 2, full(0))
	wantPage(t, d, 3, full(0))
	wantMark(t, d, 5)
	wantLog(t, d, "")
	d.AppendLog("never")
	wantDead(t, d, true)
	d.Up()
	wantErr(t, "call 8 at last", d.AppendLog("at last"), api.OK)
	wantErr(t, "call 9", d.Sync(), api.ErrDead)
	d.Up()
	wantErr(t, "call 9 again", d.Sync(), api.OK)
	wantLog(t, d, "")
}

// disturb does to a disk all that can be done to it.
func disturb(d *disk.Disk) {
	d.Plan([]api.Fall{{At: 10, Keep: 7, Torn: 1, Bytes: 9}})
	d.Write(1, full('X'))
	d.Write(2, full('X'))
	d.SetMark(99)
	d.AppendLog("XXXXX")
	d.Crash(api.Fall{Keep: 0xff, Torn: 2, Bytes: 100, Log: 3})
	d.Up()
	d.CutLog(2)
	d.AppendLog("YYYYYY")
	d.Sync()
	d.SyncLog()
	d.Plan(nil)
	d.CutLog(0)
	d.AppendLog("ZZZZZZZZZZ")
	d.Write(1, full('Z'))
	d.Write(3, full('Z'))
	d.Sync()
	d.Crash(api.Fall{})
}

// 2.3: a clone is the same, and what is done to one does not show in the other.
func TestClone(t *testing.T) {
	wantStirred(t, stirred(t))
	wantStirred(t, stirred(t).Clone())
	wantStirred(t, stirred(t).Clone().Clone())

	d := stirred(t)
	c := d.Clone()
	disturb(d)
	wantStirred(t, c)

	d = stirred(t)
	disturb(d.Clone())
	wantStirred(t, d)

	d = stirred(t)
	c = d.Clone()
	wantStirred(t, d)
	wantStirred(t, c)
}

// 2.3: each call alone, done to one of the two, shows in that one only.
func TestCloneCallByCall(t *testing.T) {
	for _, c := range calls() {
		d := stirred(t)
		twin := d.Clone()
		wantErr(t, c.name, c.do(d), api.OK)
		wantStirred(t, twin)
		d = stirred(t)
		wantErr(t, c.name, c.do(d.Clone()), api.OK)
		wantStirred(t, d)
	}
}

// 2.3: both go on at the end of the same log, and of the same loose writes, without sharing room there.
func TestCloneSharesNoRoom(t *testing.T) {
	d := fresh(t, 8)
	for range 5 {
		d.AppendLog("l")
		d.Write(1, full('l'))
	}
	c := d.Clone()
	d.AppendLog("D")
	c.AppendLog("C")
	d.Write(2, full('D'))
	c.Write(2, full('C'))
	wantLog(t, d, "lllllD")
	wantLog(t, c, "lllllC")
	d.Sync()
	c.Sync()
	wantPage(t, d, 2, full('D'))
	wantPage(t, c, 2, full('C'))
}

// 2.3: a clone of a dead disk is dead, and comes up alone.
func TestCloneOfDead(t *testing.T) {
	d := stirred(t)
	d.Crash(api.Fall{Keep: 2, Log: 4})
	c := d.Clone()
	wantDead(t, c, true)
	if !c.Up() {
		t.Error("Up: false")
	}
	wantDead(t, d, true)
	wantPage(t, c, 1, full('a'))
	wantPage(t, c, 2, full('c'))
	wantMark(t, c, 0)
	wantLog(t, c, "loos")
	wantCalls(t, c, 6)
}

// R4: what is handed out shares no memory with what was handed in, with what is kept, or with another answer.
func TestAnswersAreNewMemory(t *testing.T) {
	d := fresh(t, 8)
	in := mixed(1, 512)
	d.Write(1, in)
	loose, _ := d.Read(1)
	d.Sync()
	sure, _ := d.Read(1)
	again, _ := d.Read(1)
	twin, _ := d.Clone().Read(1)
	seen := map[*byte]int{}
	for _, s := range []string{in, loose, sure, again, twin} {
		if s != in {
			t.Errorf("%.9x", s)
		}
		seen[unsafe.StringData(s)]++
	}
	if len(seen) != 5 {
		t.Errorf("5 texts at %d places", len(seen))
	}
}
