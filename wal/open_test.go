package wal_test

import (
	"strings"
	"testing"

	"girder/api"
	"girder/wal"
)

// wantOpened opens a log of these bytes: it has these records, all else is torn, and cut away for sure.
func wantOpened(t *testing.T, what, log string, records ...string) {
	t.Helper()
	d := holding(t, log)
	calls := d.Calls()
	want := len(log) - len(laid(records...))
	l, torn, e := wal.Open(d)
	if l == nil || torn != want || e != api.OK {
		t.Errorf("%s: Open: %v, %d torn, %d, not %d torn", what, l, torn, e, want)
		return
	}
	made := 0
	if torn > 0 {
		made = 2
	}
	if n := d.Calls() - calls; n != made {
		t.Errorf("%s: %d calls of the disk, not %d", what, n, made)
	}
	if _, loose := d.Loose(); loose != 0 {
		t.Errorf("%s: %d bytes loose", what, loose)
	}
	wantAll(t, l, len(records), 0, records...)
	wantDisk(t, d, laid(records...))
	put(t, l, "one more")
	wantErr(t, what+": Flush", l.Flush(l.End()), api.OK)
	wantDisk(t, d, laid(append(records[:len(records):len(records)], "one more")...))
	if t.Failed() {
		t.Fatal(what)
	}
}

// 5.1: logs that are whole, from none on.
func TestOpenWhole(t *testing.T) {
	wantOpened(t, "empty", "")
	wantOpened(t, "one", laid("a"), "a")
	wantOpened(t, "great", laid(pattern(1, api.MaxRecord), "a", pattern(2, api.MaxRecord)), pattern(1, api.MaxRecord), "a", pattern(2, api.MaxRecord))
	wantOpened(t, "frames within records", laid(laid("a"), laid("a", "b")), laid("a"), laid("a", "b"))
	wantOpened(t, "zeros", laid("\x00", strings.Repeat("\x00", 50)), "\x00", strings.Repeat("\x00", 50))
}

// 5.1: torn at each place: what is whole stays, the rest is torn.
func TestOpenCut(t *testing.T) {
	records := []string{"a", pattern(1, 40), "\x00", pattern(2, 300), "\x00\x00\x00\x00\x00\x00\x00\x00", "last"}
	all := laid(records...)
	whole := 0
	for n := range len(all) + 1 {
		if whole < len(records) && n == len(laid(records[:whole+1]...)) {
			whole++
		}
		wantOpened(t, "cut", all[:n], records[:whole]...)
	}
	if whole != len(records) {
		t.Error(whole)
	}
}

// 5.1: another value at each place: the record there is torn, and all behind it.
func TestOpenAnotherByte(t *testing.T) {
	records := []string{"a", pattern(1, 20), "\x00\x00", "last"}
	all := laid(records...)
	for at := range len(all) {
		ahead := 0
		for len(laid(records[:ahead+1]...)) <= at {
			ahead++
		}
		for _, turn := range []byte{1, 2, 4, 8, 16, 32, 64, 128, 255, all[at]} {
			if turn == 0 {
				continue
			}
			other := all[:at] + string([]byte{all[at] ^ turn}) + all[at+1:]
			wantOpened(t, "another byte", other, records[:ahead]...)
		}
	}
}

// 5.1: a byte more or less in the midst: all from there on is torn.
func TestOpenShifted(t *testing.T) {
	records := []string{"ab", pattern(1, 20), "last"}
	all := laid(records...)
	for at := range len(all) {
		ahead := 0
		for len(laid(records[:ahead+1]...)) <= at {
			ahead++
		}
		for _, more := range []string{"\x00", "x", "\xff"} {
			if more != all[at:at+1] {
				wantOpened(t, "one more", all[:at]+more+all[at:], records[:ahead]...)
			}
		}
		if at+1 < len(all) && all[at] != all[at+1] {
			wantOpened(t, "one less", all[:at]+all[at+1:], records[:ahead]...)
		}
	}
}

// 5.1: something behind the records that is no frame.
func TestOpenBehind(t *testing.T) {
	for _, records := range [][]string{nil, {"a"}, {"a", pattern(1, 40)}} {
		all := laid(records...)
		end := uint64(len(all) + 1)
		long := pattern(2, api.MaxRecord+1)
		for name, more := range map[string]string{
			"a zero":                         "\x00",
			"a letter":                       "x",
			"zeros as long as a frame":       strings.Repeat("\x00", 12),
			"many zeros":                     strings.Repeat("\x00", 5000),
			"all ones":                       strings.Repeat("\xff", 40),
			"a length alone":                 "\x01\x00\x00\x00",
			"a record of none":               rough(end, 0, "", 0),
			"a record that is too long":      rough(end, api.MaxRecord+1, long, api.MaxRecord+1),
			"a first length of one less":     rough(end, 2, "abc", 3),
			"a first length of one more":     rough(end, 4, "abc", 3),
			"a last length of one less":      rough(end, 3, "abc", 2),
			"a last length of one more":      rough(end, 3, "abc", 4),
			"a last length turned round":     rough(end, 3, "abc", 3<<24),
			"both lengths of one more":       rough(end, 4, "abc", 4),
			"both lengths of one less":       rough(end, 2, "abc", 2),
			"a length beyond all":            rough(end, 1<<31, "abc", 1<<31),
			"the greatest length":            rough(end, 1<<32-1, "abc", 1<<32-1),
			"a frame without its last":       framed(end, "abc")[:14],
			"a frame without its first":      framed(end, "abc")[1:],
			"a record that is no frame":      "abc",
			"a frame that is broken, others": framed(end, "abc")[:14] + "\x01" + framed(end+15, "d") + framed(end+28, "e"),
		} {
			wantOpened(t, name, all+more, records...)
		}
		wantOpened(t, "frames", all+framed(end, "abc")+framed(end+15, "d")+"tail", append(records, "abc", "d")...)
	}
}

// 5.1: a frame that stands at another place than it was made for is torn.
func TestOpenMisplaced(t *testing.T) {
	a, b := framed(1, "aa"), framed(15, "bb")
	wantOpened(t, "in order", a+b, "aa", "bb")
	wantOpened(t, "the other way round", b+a)
	wantOpened(t, "the first twice", a+a, "aa")
	wantOpened(t, "the second twice", a+b+b, "aa", "bb")
	wantOpened(t, "the second alone", b)
	wantOpened(t, "the first behind a byte", "\x00"+a)
	for _, at := range []uint64{0, 1, 13, 14, 16, 15 << 8, 1<<32 + 15, 1<<63 + 15, 1<<64 - 1} {
		wantOpened(t, "of another place", a+framed(at, "bb"), "aa")
	}
	for _, at := range []uint64{0, 2, 1 << 56, 1<<64 - 1} {
		wantOpened(t, "of another place at the front", framed(at, "aa"))
	}
	c := framed(29, "cc")
	wantOpened(t, "one left out", a+c, "aa")
	wantOpened(t, "one put between", a+framed(15, "xx")+b, "aa", "xx")
}

// 5.1: at each place of a great record, the record and all behind it are torn.
func TestOpenCutGreat(t *testing.T) {
	great := pattern(3, api.MaxRecord)
	all := laid("a", great, "b")
	for _, n := range []int{13, 14, 17, 20, 21, 22, 100, 13 + 12 + api.MaxRecord - 1} {
		wantOpened(t, "cut", all[:n], "a")
	}
	wantOpened(t, "cut behind it", all[:13+12+api.MaxRecord], "a", great)
	wantOpened(t, "cut in the last", all[:len(all)-1], "a", great)
}

// 5.1: a log may be torn from its very front, however long it is.
func TestOpenNothingRight(t *testing.T) {
	wantOpened(t, "zeros", strings.Repeat("\x00", api.MaxLog))
	wantOpened(t, "a full log without its last byte", pattern(1, api.MaxLog-1))
}

// 5.1: the errors of the disk: when it is dead, and when the power fails as it is cut or synced.
func TestOpenErrors(t *testing.T) {
	d := holding(t, laid("a", "b")+"torn")
	d.Crash(api.Fall{})
	if l, torn, e := wal.Open(d); l != nil || torn != 0 || e != api.ErrDead {
		t.Error("dead:", l, torn, e)
	}
	d.Up()
	wantDisk(t, d, laid("a", "b")+"torn")
	for at := range 2 {
		d.Plan([]api.Fall{{At: d.Calls() + at}})
		if l, torn, e := wal.Open(d); l != nil || torn != 0 || e != api.ErrDead {
			t.Errorf("a fall at its call %d: %v, %d, %d", at, l, torn, e)
		}
		d.Up()
		want := laid("a", "b") + "torn"
		if at == 1 {
			want = laid("a", "b")
		}
		wantDisk(t, d, want)
	}
	l := opened(t, d)
	wantAll(t, l, 2, 0, "a", "b")
}

// 5.1: of a log that is whole no call is asked that could meet a fall; its records are not put there again.
func TestOpenWholeMeetsNoFall(t *testing.T) {
	d := holding(t, laid("a", "b"))
	d.Plan([]api.Fall{{At: d.Calls()}})
	l := opened(t, d)
	wantAll(t, l, 2, 0, "a", "b")
	wantErr(t, "Flush", l.Flush(l.End()), api.OK)
	wantDisk(t, d, laid("a", "b"))
	if d.Dead() {
		t.Error("dead")
	}
}

// 5.1: the log stands on the disk that was handed in.
func TestOpenStandsOnTheDisk(t *testing.T) {
	d := holding(t, laid("a"))
	twin := d.Clone()
	l := opened(t, d)
	put(t, l, "b")
	wantErr(t, "Flush", l.Flush(14), api.OK)
	wantErr(t, "SetMaster", l.SetMaster(14), api.OK)
	wantDisk(t, d, laid("a", "b"))
	wantDisk(t, twin, laid("a"))
	if n, _ := d.Mark(); n != 14 {
		t.Error("the mark:", n)
	}
}
