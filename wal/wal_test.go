package wal_test

import (
	"encoding/binary"
	"hash/crc32"
	"math"
	"slices"
	"strings"
	"testing"
	"unsafe"

	"girder/api"
	"girder/disk"
	"girder/wal"
)

// pattern is n bytes of which neighbours differ; another seed makes others at each place.
func pattern(seed, n int) string {
	b := make([]byte, n)
	for i := range n {
		b[i] = byte(i*167 + i>>8 + seed*31)
	}
	return string(b)
}

// rough lays a frame by hand, of any record, with any lengths at its ends.
func rough(at uint64, first uint32, s string, last uint32) string {
	place := binary.LittleEndian.AppendUint64(nil, at)
	sum := crc32.Checksum(append(place, s...), crc32.MakeTable(crc32.Castagnoli))
	b := binary.LittleEndian.AppendUint32(nil, first)
	b = binary.LittleEndian.AppendUint32(b, sum)
	b = append(b, s...)
	return string(binary.LittleEndian.AppendUint32(b, last))
}

// framed lays a record's frame by hand.
func framed(at uint64, s string) string { return rough(at, uint32(len(s)), s, uint32(len(s))) }

// laid is the frames of records, behind one another from the front.
func laid(records ...string) string {
	all := ""
	for _, s := range records {
		all += framed(uint64(len(all)+1), s)
	}
	return all
}

func fresh(t *testing.T) *disk.Disk {
	t.Helper()
	d, e := disk.New(8)
	if e != api.OK {
		t.Fatal("New:", e)
	}
	return d
}

// holding is a disk whose log has these bytes, all of them sure.
func holding(t *testing.T, log string) *disk.Disk {
	t.Helper()
	d := fresh(t)
	wantErr(t, "AppendLog", d.AppendLog(log), api.OK)
	wantErr(t, "SyncLog", d.SyncLog(), api.OK)
	return d
}

// opened is the log of a disk of which nothing is torn.
func opened(t *testing.T, d *disk.Disk) *wal.Log {
	t.Helper()
	l, torn, e := wal.Open(d)
	if l == nil || torn != 0 || e != api.OK {
		t.Fatalf("Open: %v, %d torn, %d", l, torn, e)
	}
	return l
}

// begun is a new disk, and its log with records of which the first so many are flushed.
func begun(t *testing.T, flushed int, records ...string) (*disk.Disk, *wal.Log) {
	t.Helper()
	d := fresh(t)
	l := opened(t, d)
	for i, s := range records {
		put(t, l, s)
		if i+1 == flushed {
			wantErr(t, "Flush", l.Flush(l.End()), api.OK)
		}
	}
	return d, l
}

func put(t *testing.T, l *wal.Log, s string) api.LSN {
	t.Helper()
	end := l.End()
	at, e := l.Append(s)
	if e != api.OK || at != end {
		t.Fatalf("Append of %d bytes: %d, %d, not %d", len(s), at, e, end)
	}
	return at
}

func wantErr(t *testing.T, what string, e, want api.Errno) {
	t.Helper()
	if e != want {
		t.Errorf("%s: %d, not %d", what, e, want)
	}
}

func wantDisk(t *testing.T, d *disk.Disk, want string) {
	t.Helper()
	if s, e := d.ReadLog(); s != want || e != api.OK {
		t.Errorf("the disk's log has %d bytes %.20q, %d, not %d bytes %.20q", len(s), s, e, len(want), want)
	}
}

func wantKept(t *testing.T, l *wal.Log, want int) {
	t.Helper()
	if n := l.Kept(); n != want {
		t.Errorf("Kept: %d, not %d", n, want)
	}
}

// recordsOf is what a walk from the front meets.
func recordsOf(l *wal.Log) []string {
	var found []string
	for at := api.LSN(1); ; {
		s, next, ok := l.Get(at)
		if !ok {
			return found
		}
		found = append(found, s)
		at = next
	}
}

// wantAll holds all that is to be seen of a log against its records, how many of them are flushed, and what is kept.
func wantAll(t *testing.T, l *wal.Log, flushed, kept int, records ...string) {
	t.Helper()
	at, last, first := api.LSN(1), api.LSN(0), api.LSN(0)
	for i, s := range records {
		if i == flushed {
			first = at
		}
		if got, ok := l.Back(at); got != last || ok != (i > 0) {
			t.Errorf("Back(%d): %d, %v, not %d", at, got, ok, last)
		}
		next := at + api.LSN(len(s)) + 12
		if got, behind, ok := l.Get(at); got != s || behind != next || !ok {
			t.Errorf("Get(%d): %.20q, %d, %v, not %.20q, %d", at, got, behind, ok, s, next)
		}
		at, last = next, at
	}
	if flushed == len(records) {
		first = at
	}
	if n := l.Len(); n != len(records) {
		t.Errorf("Len: %d, not %d", n, len(records))
	}
	if n := l.End(); n != at {
		t.Errorf("End: %d, not %d", n, at)
	}
	if n := l.Flushed(); n != first {
		t.Errorf("Flushed: %d, not %d", n, first)
	}
	if n, ok := l.Last(); n != last || ok != (len(records) > 0) {
		t.Errorf("Last: %d, %v, not %d", n, ok, last)
	}
	if n, ok := l.Back(at); n != last || ok != (len(records) > 0) {
		t.Errorf("Back of the end: %d, %v, not %d", n, ok, last)
	}
	if s, n, ok := l.Get(at); s != "" || n != 0 || ok {
		t.Errorf("Get of the end: %q, %d, %v", s, n, ok)
	}
	if n := l.Room(); n != api.MaxLog-int(at)+1 {
		t.Errorf("Room: %d, not %d", n, api.MaxLog-int(at)+1)
	}
	wantKept(t, l, kept)
}

// 5.2, 5.3, 5.4: the chapter's example, step by step.
func TestExample(t *testing.T) {
	d := fresh(t)
	l := opened(t, d)
	wantAll(t, l, 0, 0)
	if at, e := l.Append("ab"); at != 1 || e != api.OK {
		t.Error("ab:", at, e)
	}
	if at, e := l.Append("c"); at != 15 || e != api.OK {
		t.Error("c:", at, e)
	}
	if l.End() != 28 || l.Flushed() != 1 {
		t.Error("End, Flushed:", l.End(), l.Flushed())
	}
	if at, ok := l.Back(28); at != 15 || !ok {
		t.Error("Back(28):", at, ok)
	}
	wantDisk(t, d, "")
	wantErr(t, "Flush", l.Flush(1), api.OK)
	if l.Flushed() != 28 {
		t.Error("Flushed:", l.Flushed())
	}
	wantAll(t, l, 2, 0, "ab", "c")
	wantDisk(t, d, laid("ab", "c"))
}

// 5.1: the bytes of frames, by hand and at the edges.
func TestFrame(t *testing.T) {
	const known = "\x02\x00\x00\x00" + "????" + "ab" + "\x02\x00\x00\x00"
	s, e := wal.Frame(1, "ab")
	if len(s) != 14 || s[:4]+"????"+s[8:] != known || e != api.OK {
		t.Errorf("%q, %d", s, e)
	}
	for _, n := range []int{1, 2, 255, 256, 257, 8191, api.MaxRecord} {
		for _, at := range []api.LSN{1, 2, 255, 256, 1 << 32, 1 << 63, math.MaxUint64} {
			want := framed(uint64(at), pattern(n, n))
			if s, e := wal.Frame(at, pattern(n, n)); s != want || e != api.OK {
				t.Errorf("Frame(%d) of %d bytes: %.20x, %d, not %.20x", at, n, s, e, want)
			}
		}
	}
	if api.FrameBytes != 12 || api.MaxRecord != 8192 {
		t.Error("the numbers are others")
	}
}

// 5.1: records that may not be, ahead of a place that may not be.
func TestFrameWrong(t *testing.T) {
	for _, c := range []struct {
		at   api.LSN
		n    int
		want api.Errno
	}{
		{1, 0, api.ErrRecord}, {1, api.MaxRecord + 1, api.ErrRecord}, {7, 100000, api.ErrRecord},
		{0, 0, api.ErrRecord}, {0, api.MaxRecord + 1, api.ErrRecord},
		{0, 1, api.ErrArg}, {0, api.MaxRecord, api.ErrArg},
	} {
		if s, e := wal.Frame(c.at, pattern(1, c.n)); s != "" || e != c.want {
			t.Errorf("Frame(%d) of %d bytes: %.20q, %d, not %d", c.at, c.n, s, e, c.want)
		}
	}
}

// 5.2: which records may be, put by Append and by Spend; one that may not changes nothing.
func TestRecordLengths(t *testing.T) {
	for name, add := range map[string]func(*wal.Log, string) (api.LSN, api.Errno){"Append": (*wal.Log).Append, "Spend": (*wal.Log).Spend} {
		_, l := begun(t, 1, "first", "second")
		for _, n := range []int{0, api.MaxRecord + 1, 2 * api.MaxRecord, api.MaxLog, api.MaxLog + 1} {
			if at, e := add(l, pattern(2, n)); at != 0 || e != api.ErrRecord {
				t.Errorf("%s of %d bytes: %d, %d", name, n, at, e)
			}
			wantAll(t, l, 1, 0, "first", "second")
		}
		records := []string{"first", "second"}
		for _, n := range []int{1, 2, api.MaxRecord - 1, api.MaxRecord} {
			end := l.End()
			if at, e := add(l, pattern(3, n)); at != end || e != api.OK {
				t.Errorf("%s of %d bytes: %d, %d, not %d", name, n, at, e, end)
			}
			records = append(records, pattern(3, n))
			wantAll(t, l, 1, 0, records...)
		}
	}
}

// 5.4, 5.5: records begin where Append told and at no other place, in the tail and ahead of it.
func TestPlaces(t *testing.T) {
	records := []string{"a", pattern(1, 40), "\x00", "bc", strings.Repeat("\x01\x00\x00\x00", 9), "last"}
	for flushed := range len(records) + 1 {
		_, l := begun(t, flushed, records...)
		wantAll(t, l, flushed, 0, records...)
		starts := map[api.LSN]string{}
		ends := map[api.LSN]api.LSN{}
		at := api.LSN(1)
		for _, s := range records {
			starts[at] = s
			ends[at+api.LSN(len(s))+12] = at
			at += api.LSN(len(s)) + 12
		}
		for at := range l.End() + 20 {
			want, here := starts[at]
			s, behind, ok := l.Get(at)
			if s != want || ok != here || ok != (behind > 0) || ok && ends[behind] != at {
				t.Errorf("Get(%d): %q, %d, %v", at, s, behind, ok)
			}
			ahead, here := ends[at]
			if n, ok := l.Back(at); n != ahead || ok != here {
				t.Errorf("Back(%d): %d, %v, not %d", at, n, ok, ahead)
			}
		}
		for _, at := range []api.LSN{1 << 31, 1 << 32, 1 << 63, math.MaxUint64 - 1, math.MaxUint64} {
			if s, behind, ok := l.Get(at); s != "" || behind != 0 || ok {
				t.Errorf("Get(%d): %q, %d, %v", at, s, behind, ok)
			}
			if n, ok := l.Back(at); n != 0 || ok {
				t.Errorf("Back(%d): %d, %v", at, n, ok)
			}
		}
	}
}

// 5.5: going back from the end meets all records, as going on from the front does; of a great many.
func TestWalks(t *testing.T) {
	const many = 5000
	d := fresh(t)
	l := opened(t, d)
	told := map[api.LSN]string{}
	var order []string
	for i := range many {
		s := pattern(i, 1+i*i%97)
		told[put(t, l, s)] = s
		order = append(order, s)
		if i%500 == 0 {
			l.Flush(l.End())
		}
	}
	for _, log := range []*wal.Log{l, opened(t, d)} {
		met := 0
		at, ok := log.Last()
		for ; ok; at, ok = log.Back(at) {
			if s, _, here := log.Get(at); !here || s != told[at] {
				t.Fatalf("Get(%d): %.9q, %v", at, s, here)
			}
			met++
		}
		if met != log.Len() {
			t.Errorf("%d of %d met", met, log.Len())
		}
		if on := recordsOf(log); !slices.Equal(on, order[:log.Len()]) {
			t.Errorf("%d met on the way on", len(on))
		}
	}
	if l.Len() != many {
		t.Error("Len:", l.Len())
	}
}

// 5.1, 5.5: a nil disk, and a nil Log at every method.
func TestNil(t *testing.T) {
	if l, torn, e := wal.Open(nil); l != nil || torn != 0 || e != api.ErrArg {
		t.Error("Open(nil):", l, torn, e)
	}
	var l *wal.Log
	for _, s := range []string{"", "a", pattern(1, api.MaxRecord+1)} {
		if at, e := l.Append(s); at != 0 || e != api.ErrArg {
			t.Error("Append:", at, e)
		}
		if at, e := l.Spend(s); at != 0 || e != api.ErrArg {
			t.Error("Spend:", at, e)
		}
	}
	for _, n := range []int{-1, 0, 1, api.MaxLog + 1} {
		wantErr(t, "Keep", l.Keep(n), api.ErrArg)
		if l.Give(n) != 0 {
			t.Error("Give:", l.Give(n))
		}
	}
	for _, at := range []api.LSN{0, 1, 2, math.MaxUint64} {
		wantErr(t, "Flush", l.Flush(at), api.ErrArg)
		wantErr(t, "SetMaster", l.SetMaster(at), api.ErrArg)
		if s, n, ok := l.Get(at); s != "" || n != 0 || ok {
			t.Error("Get:", s, n, ok)
		}
		if n, ok := l.Back(at); n != 0 || ok {
			t.Error("Back:", n, ok)
		}
	}
	if n, ok := l.Last(); n != 0 || ok {
		t.Error("Last:", n, ok)
	}
	if l.Flushed() != 0 || l.End() != 0 || l.Room() != 0 || l.Kept() != 0 || l.Len() != 0 || l.Master() != 0 {
		t.Error("numbers:", l.Flushed(), l.End(), l.Room(), l.Kept(), l.Len(), l.Master())
	}
}

// R4: what is put in is not kept: its memory may be used for something else.
func TestPutIsCopied(t *testing.T) {
	for name, add := range map[string]func(*wal.Log, string) (api.LSN, api.Errno){"Append": (*wal.Log).Append, "Spend": (*wal.Log).Spend} {
		d := fresh(t)
		l := opened(t, d)
		room := []byte("record")
		add(l, unsafe.String(&room[0], len(room)))
		copy(room, "XXXXXX")
		wantAll(t, l, 0, 0, "record")
		l.Flush(1)
		wantDisk(t, d, laid("record"))
		if string(room) != "XXXXXX" {
			t.Errorf("%s: what was handed in is %q", name, room)
		}
	}
}

// R4: what is told shares no memory with what was handed in, with what is kept, or with another answer.
func TestAnswersAreNewMemory(t *testing.T) {
	in := pattern(5, 300)
	_, l := begun(t, 0, in)
	places := map[*byte]bool{unsafe.StringData(in): true}
	answers := 1
	tell := func(s string) {
		if len(s) < 300 {
			t.Fatalf("%d bytes", len(s))
		}
		places[unsafe.StringData(s)] = true
		answers++
		b := unsafe.Slice(unsafe.StringData(s), len(s))
		for i := range b {
			b[i] = 'X'
		}
	}
	for range 3 {
		s, _, _ := l.Get(1)
		if s != in {
			t.Fatalf("Get: %.20q", s)
		}
		tell(s)
		l.Flush(1)
	}
	for range 2 {
		f, _ := wal.Frame(1, in)
		if f != laid(in) {
			t.Fatalf("Frame: %.20q", f)
		}
		tell(f)
	}
	if len(places) != answers {
		t.Errorf("%d texts at %d places", answers, len(places))
	}
	wantAll(t, l, 1, 0, pattern(5, 300))
}

// R5: logs of several disks have nothing to do with one another.
func TestLogsApart(t *testing.T) {
	da, a := begun(t, 1, "a", "aa")
	db, b := begun(t, 0, "bbb")
	wantErr(t, "Keep", a.Keep(5), api.OK)
	wantErr(t, "SetMaster", a.SetMaster(1), api.OK)
	wantAll(t, a, 1, 5, "a", "aa")
	wantAll(t, b, 0, 0, "bbb")
	b.Flush(1)
	wantDisk(t, da, laid("a"))
	wantDisk(t, db, laid("bbb"))
	if a.Master() != 1 || b.Master() != 0 {
		t.Error("Master:", a.Master(), b.Master())
	}
}
