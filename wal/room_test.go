package wal_test

import (
	"math"
	"testing"

	"girder/api"
	"girder/wal"
)

// filled is a log that has room for just so many bytes, and its records.
func filled(t *testing.T, room int) (*wal.Log, []string) {
	t.Helper()
	_, l := begun(t, 0)
	var records []string
	add := func(n int) {
		records = append(records, pattern(len(records), n))
		put(t, l, records[len(records)-1])
	}
	for l.Room()-room > 2*(api.MaxRecord+api.FrameBytes) {
		add(api.MaxRecord)
	}
	half := (l.Room() - room) / 2
	add(half - api.FrameBytes)
	add(l.Room() - room - api.FrameBytes)
	if l.Room() != room {
		t.Fatalf("Room: %d, not %d", l.Room(), room)
	}
	return l, records
}

// 5.2: room for a frame and not one byte more, in whose room nothing is kept.
func TestAppendAtTheRoom(t *testing.T) {
	for _, n := range []int{1, 2, 100, api.MaxRecord} {
		l, records := filled(t, n+api.FrameBytes)
		if n < api.MaxRecord {
			if at, e := l.Append(pattern(1, n+1)); at != 0 || e != api.ErrLog {
				t.Errorf("Append of %d bytes: %d, %d", n+1, at, e)
			}
			if at, e := l.Spend(pattern(1, n+1)); at != 0 || e != api.ErrLog {
				t.Errorf("Spend of %d bytes: %d, %d", n+1, at, e)
			}
		}
		wantAll(t, l, 0, 0, records...)
		put(t, l, pattern(1, n))
		records = append(records, pattern(1, n))
		wantAll(t, l, 0, 0, records...)
		if l.Room() != 0 {
			t.Error("Room:", l.Room())
		}
	}
}

// 5.2: in a full log there is room for nothing, and what may not be is told first.
func TestFullLog(t *testing.T) {
	l, records := filled(t, 0)
	for _, c := range []struct {
		n    int
		want api.Errno
	}{{0, api.ErrRecord}, {1, api.ErrLog}, {api.MaxRecord, api.ErrLog}, {api.MaxRecord + 1, api.ErrRecord}} {
		if at, e := l.Append(pattern(1, c.n)); at != 0 || e != c.want {
			t.Errorf("Append of %d bytes: %d, %d, not %d", c.n, at, e, c.want)
		}
		if at, e := l.Spend(pattern(1, c.n)); at != 0 || e != c.want {
			t.Errorf("Spend of %d bytes: %d, %d, not %d", c.n, at, e, c.want)
		}
	}
	wantErr(t, "Keep(-1)", l.Keep(-1), api.ErrArg)
	wantErr(t, "Keep(0)", l.Keep(0), api.OK)
	wantErr(t, "Keep(1)", l.Keep(1), api.ErrLog)
	wantAll(t, l, 0, 0, records...)
	wantErr(t, "Flush", l.Flush(l.End()), api.OK)
	wantAll(t, l, len(records), 0, records...)
}

// 5.1, 5.2: a full log is opened whole, and has no room.
func TestOpenFull(t *testing.T) {
	d, l := begun(t, 0)
	var records []string
	for l.Room() > 0 {
		n := min(l.Room()-api.FrameBytes, api.MaxRecord)
		if left := l.Room() - n - api.FrameBytes; left > 0 && left <= api.FrameBytes {
			n -= api.FrameBytes + 1
		}
		records = append(records, pattern(len(records), n))
		put(t, l, records[len(records)-1])
	}
	wantErr(t, "Flush", l.Flush(l.End()), api.OK)
	again := opened(t, d)
	wantAll(t, again, len(records), 0, records...)
	if at, e := again.Append("x"); at != 0 || e != api.ErrLog {
		t.Error("Append:", at, e)
	}
}

// 5.2: what is kept is no room for Append; it is for Spend.
func TestAppendBesideKept(t *testing.T) {
	const n = 50
	for _, kept := range []int{1, n + api.FrameBytes, 1000} {
		l, records := filled(t, n+api.FrameBytes+kept)
		wantErr(t, "Keep", l.Keep(kept), api.OK)
		if at, e := l.Append(pattern(1, n+1)); at != 0 || e != api.ErrLog {
			t.Errorf("%d kept: Append of one more: %d, %d", kept, at, e)
		}
		wantAll(t, l, 0, kept, records...)
		put(t, l, pattern(1, n))
		records = append(records, pattern(1, n))
		wantAll(t, l, 0, kept, records...)
		if at, e := l.Append("x"); at != 0 || e != api.ErrLog {
			t.Errorf("%d kept: Append in none: %d, %d", kept, at, e)
		}
		wantErr(t, "Keep of one more", l.Keep(1), api.ErrLog)
		wantAll(t, l, 0, kept, records...)
	}
}

// 5.2: Spend takes of what is kept, down to 0 and not below; when that is too little, of the rest.
func TestSpend(t *testing.T) {
	_, l := begun(t, 0)
	wantErr(t, "Keep", l.Keep(40), api.OK)
	var records []string
	for _, c := range []struct{ n, kept int }{{1, 27}, {15, 0}, {1, 0}, {api.MaxRecord, 0}} {
		end := l.End()
		s := pattern(c.n, c.n)
		if at, e := l.Spend(s); at != end || e != api.OK {
			t.Errorf("Spend of %d bytes: %d, %d", c.n, at, e)
		}
		records = append(records, s)
		wantAll(t, l, 0, c.kept, records...)
	}
	wantErr(t, "Keep", l.Keep(20), api.OK)
	l.Spend(pattern(9, 9))
	wantAll(t, l, 0, 0, append(records, pattern(9, 9))...)
}

// 5.2: Spend in the last room there is, of what is kept, of more, and of less.
func TestSpendAtTheRoom(t *testing.T) {
	const frame = 30 + api.FrameBytes
	for _, kept := range []int{0, 1, frame - 1, frame} {
		l, records := filled(t, frame)
		wantErr(t, "Keep", l.Keep(kept), api.OK)
		if kept > 0 {
			if at, e := l.Append(pattern(1, 30)); at != 0 || e != api.ErrLog {
				t.Errorf("%d kept: Append: %d, %d", kept, at, e)
			}
		}
		if at, e := l.Spend(pattern(1, 31)); at != 0 || e != api.ErrLog {
			t.Errorf("%d kept: Spend of one more: %d, %d", kept, at, e)
		}
		wantAll(t, l, 0, kept, records...)
		end := l.End()
		if at, e := l.Spend(pattern(1, 30)); at != end || e != api.OK {
			t.Errorf("%d kept: Spend: %d, %d", kept, at, e)
		}
		wantAll(t, l, 0, 0, append(records, pattern(1, 30))...)
	}
}

// 5.2: Keep below 0, of 0, of just the room, and of more, up to numbers that wrap round.
func TestKeep(t *testing.T) {
	_, l := begun(t, 1, "a", "bc")
	room := l.Room()
	wantErr(t, "Keep(-1)", l.Keep(-1), api.ErrArg)
	wantErr(t, "Keep of the lowest", l.Keep(math.MinInt), api.ErrArg)
	wantErr(t, "Keep(0)", l.Keep(0), api.OK)
	wantErr(t, "Keep of one more", l.Keep(room+1), api.ErrLog)
	wantErr(t, "Keep of the highest", l.Keep(math.MaxInt), api.ErrLog)
	wantAll(t, l, 1, 0, "a", "bc")
	wantErr(t, "Keep(7)", l.Keep(7), api.OK)
	wantErr(t, "Keep of one more", l.Keep(room-6), api.ErrLog)
	wantErr(t, "Keep of the highest", l.Keep(math.MaxInt), api.ErrLog)
	wantErr(t, "Keep below 0 of what is kept", l.Keep(-7), api.ErrArg)
	wantAll(t, l, 1, 7, "a", "bc")
	wantErr(t, "Keep of the rest", l.Keep(room-7), api.OK)
	wantAll(t, l, 1, room, "a", "bc")
	wantErr(t, "Keep(1)", l.Keep(1), api.ErrLog)
	wantErr(t, "Keep(0)", l.Keep(0), api.OK)
	wantAll(t, l, 1, room, "a", "bc")
	wantErr(t, "Flush", l.Flush(l.End()), api.OK)
	wantAll(t, l, 2, room, "a", "bc")

	_, whole := begun(t, 0)
	wantErr(t, "Keep of the whole", whole.Keep(api.MaxLog), api.OK)
	wantAll(t, whole, 0, api.MaxLog)
}

// 5.2: Give below 0, of 0, of less, of just that, and of more than what is kept.
func TestGive(t *testing.T) {
	for _, c := range []struct{ n, want int }{
		{math.MinInt, 10}, {-1, 10}, {0, 10}, {1, 9}, {9, 1}, {10, 0}, {11, 0}, {math.MaxInt, 0},
	} {
		_, l := begun(t, 0, "a")
		wantErr(t, "Keep", l.Keep(10), api.OK)
		if n := l.Give(c.n); n != c.want {
			t.Errorf("Give(%d): %d, not %d", c.n, n, c.want)
		}
		wantAll(t, l, 0, c.want, "a")
		if n := l.Give(0); n != c.want {
			t.Errorf("Give(0): %d, not %d", n, c.want)
		}
	}
	_, l := begun(t, 0)
	if n := l.Give(5); n != 0 {
		t.Error("Give of nothing:", n)
	}
	wantErr(t, "Keep", l.Keep(3), api.OK)
	wantKept(t, l, 3)
}

// 5.2: room that is given back is there for Append again.
func TestGiveMakesRoom(t *testing.T) {
	l, records := filled(t, 100)
	wantErr(t, "Keep", l.Keep(100), api.OK)
	if _, e := l.Append("x"); e != api.ErrLog {
		t.Error("Append:", e)
	}
	l.Give(12)
	if _, e := l.Append("x"); e != api.ErrLog {
		t.Error("Append:", e)
	}
	l.Give(1)
	put(t, l, "x")
	wantAll(t, l, 0, 87, append(records, "x")...)
}

// 5.2: what is kept is of one Log alone: who opens anew keeps nothing.
func TestKeptIsNotOnDisk(t *testing.T) {
	d, l := begun(t, 1, "a")
	wantErr(t, "Keep", l.Keep(10), api.OK)
	again := opened(t, d)
	wantAll(t, again, 1, 0, "a")
	wantAll(t, l, 1, 10, "a")
}
