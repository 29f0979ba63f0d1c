package raw_test

import (
	"math"
	"testing"

	"girder/api"
	"girder/raw"
)

// state is what a reader tells of itself.
type state struct {
	err      api.Errno
	at, left int
}

func stateOf(r *raw.Reader) state { return state{r.Err(), r.At(), r.Left()} }

func wantState(t *testing.T, r *raw.Reader, want state, told string) {
	t.Helper()
	if got := stateOf(r); got != want {
		t.Errorf("%s: stands at %+v, not %+v", told, got, want)
	}
}

// wantStopped asks for everything: nothing may be taken, and the state stays.
func wantStopped(t *testing.T, r *raw.Reader, told string) {
	t.Helper()
	was := stateOf(r)
	for _, long := range []int{-1, 0, 1, 8, 9} {
		if n := r.Number(long); n != 0 {
			t.Errorf("%s: Number(%d) behind an error: %d", told, long, n)
		}
	}
	for _, n := range []int{-1, 0, 1, 1000} {
		if s := r.Bytes(n); s != "" {
			t.Errorf("%s: Bytes(%d) behind an error: %q", told, n, s)
		}
	}
	for _, most := range []int{-1, 0, 1, 70000} {
		if s := r.Text(most); s != "" {
			t.Errorf("%s: Text(%d) behind an error: %q", told, most, s)
		}
	}
	if r.Bool() {
		t.Errorf("%s: Bool behind an error: true", told)
	}
	r.Fail(api.ErrDead)
	r.Fail(api.OK)
	if e := r.End(); e != was.err {
		t.Errorf("%s: End behind the error %d: %d", told, was.err, e)
	}
	wantState(t, r, was, told+", then asked on")
}

// 1.2: numbers from the front, byte by byte.
func TestReaderNumber(t *testing.T) {
	r := raw.NewReader("\x11\x22\x33\x44\x55\x66\x77\x88\x99\xaa\xbb\xcc")
	wantState(t, r, state{api.OK, 0, 12}, "at the front")
	for _, c := range []struct {
		long, at int
		n        uint64
	}{{0, 0, 0}, {1, 1, 0x11}, {8, 9, 0x9988776655443322}, {2, 11, 0xbbaa}, {0, 11, 0}, {1, 12, 0xcc}, {0, 12, 0}} {
		if n := r.Number(c.long); n != c.n {
			t.Errorf("Number(%d): %#x, not %#x", c.long, n, c.n)
		}
		wantState(t, r, state{api.OK, c.at, 12 - c.at}, "a number")
	}
	if e := r.End(); e != api.OK {
		t.Errorf("End: %d", e)
	}
}

// 1.2: Number's errors: ErrArg ahead of ErrCut, and nothing is taken.
func TestReaderNumberWrong(t *testing.T) {
	for _, c := range []struct {
		long int
		err  api.Errno
	}{{-1, api.ErrArg}, {9, api.ErrArg}, {math.MinInt, api.ErrArg}, {math.MaxInt, api.ErrArg}, {4, api.ErrCut}, {8, api.ErrCut}} {
		r := raw.NewReader("\x01\x02\x03\x01")
		r.Number(1)
		if n := r.Number(c.long); n != 0 {
			t.Errorf("Number(%d): %d", c.long, n)
		}
		wantState(t, r, state{c.err, 1, 3}, "a wrong number")
		wantStopped(t, r, "a wrong number")
	}
	r := raw.NewReader("")
	r.Number(1)
	wantState(t, r, state{api.ErrCut, 0, 0}, "a number of nothing")
}

// 1.2: bytes.
func TestReaderBytes(t *testing.T) {
	r := raw.NewReader("abc\x00d")
	for _, c := range []struct {
		n, at int
		s     string
	}{{0, 0, ""}, {2, 2, "ab"}, {3, 5, "c\x00d"}, {0, 5, ""}} {
		if s := r.Bytes(c.n); s != c.s {
			t.Errorf("Bytes(%d): %q, not %q", c.n, s, c.s)
		}
		wantState(t, r, state{api.OK, c.at, 5 - c.at}, "bytes")
	}
}

// 1.2: Bytes' errors.
func TestReaderBytesWrong(t *testing.T) {
	for _, c := range []struct {
		n   int
		err api.Errno
	}{{-1, api.ErrArg}, {math.MinInt, api.ErrArg}, {5, api.ErrCut}, {math.MaxInt, api.ErrCut}} {
		r := raw.NewReader("abcdef")
		r.Bytes(2)
		if s := r.Bytes(c.n); s != "" {
			t.Errorf("Bytes(%d): %q", c.n, s)
		}
		wantState(t, r, state{c.err, 2, 4}, "wrong bytes")
		wantStopped(t, r, "wrong bytes")
	}
}

// 1.2: texts, their most at the length and beyond.
func TestReaderText(t *testing.T) {
	for _, n := range []int{0, 1, 2, 255, 256, 65535} {
		s, _ := raw.Text(pattern(n))
		for _, most := range []int{n, n + 1, 65535, 65536, math.MaxInt} {
			r := raw.NewReader("x" + s + "yz")
			r.Bytes(1)
			if got := r.Text(most); got != pattern(n) {
				t.Errorf("Text(%d) of %d bytes: %d bytes %.9q", most, n, len(got), got)
			}
			wantState(t, r, state{api.OK, n + 3, 2}, "a text")
		}
	}
}

// 1.2: Text's errors: ErrCut for the length, ErrMore, ErrCut for the bytes; nothing is taken, the length neither.
func TestReaderTextWrong(t *testing.T) {
	for _, c := range []struct {
		s    string
		most int
		err  api.Errno
	}{
		{"", 9, api.ErrCut},
		{"", -1, api.ErrCut},
		{"\x01", 9, api.ErrCut},
		{"\x01", -1, api.ErrCut},
		{"\x00\x00", -1, api.ErrMore},
		{"\x00\x00", math.MinInt, api.ErrMore},
		{"\x01\x00a", 0, api.ErrMore},
		{"\x02\x00ab", 1, api.ErrMore},
		{"\x05\x00ab", 4, api.ErrMore},
		{"\xff\xff", 65534, api.ErrMore},
		{"\x05\x00ab", 5, api.ErrCut},
		{"\x05\x00ab", 9, api.ErrCut},
		{"\x05\x00abcd", 9, api.ErrCut},
		{"\x02\x00", 9, api.ErrCut},
		{"\x02\x00a", 2, api.ErrCut},
		{"\xff\xff", math.MaxInt, api.ErrCut},
	} {
		r := raw.NewReader("x" + c.s)
		r.Bytes(1)
		if s := r.Text(c.most); s != "" {
			t.Errorf("Text(%d) of %q: %q", c.most, c.s, s)
		}
		wantState(t, r, state{c.err, 1, len(c.s)}, "a wrong text")
		wantStopped(t, r, "a wrong text")
	}
}

// 1.2: yes and no, and all that is neither.
func TestReaderBool(t *testing.T) {
	r := raw.NewReader("\x00\x01\x00")
	if a, b, c := r.Bool(), r.Bool(), r.Bool(); a || !b || c {
		t.Error("no, yes, no:", a, b, c)
	}
	wantState(t, r, state{api.OK, 3, 0}, "three")
	if r.Bool() {
		t.Error("yes of nothing")
	}
	wantState(t, r, state{api.ErrCut, 3, 0}, "a bool of nothing")
	wantStopped(t, r, "a bool of nothing")
	for b := 2; b < 256; b++ {
		r := raw.NewReader("\x01" + string([]byte{byte(b)}) + "\x01")
		r.Bool()
		if r.Bool() {
			t.Errorf("the byte %d is yes", b)
		}
		wantState(t, r, state{api.ErrForm, 1, 2}, "neither")
		wantStopped(t, r, "neither")
	}
}

// 1.2: Fail lays the first error alone, and OK is none.
func TestReaderFail(t *testing.T) {
	r := raw.NewReader("\x01\x02")
	r.Fail(api.OK)
	wantState(t, r, state{api.OK, 0, 2}, "Fail(OK)")
	if n := r.Number(1); n != 1 {
		t.Error("Number behind Fail(OK):", n)
	}
	r.Fail(api.ErrOp)
	wantState(t, r, state{api.ErrOp, 1, 1}, "Fail(ErrOp)")
	r.Fail(api.ErrCut)
	r.Fail(api.OK)
	wantState(t, r, state{api.ErrOp, 1, 1}, "Fail again")
	wantStopped(t, r, "Fail")

	r = raw.NewReader("\x01")
	r.Number(2)
	r.Fail(api.ErrForm)
	wantState(t, r, state{api.ErrCut, 0, 1}, "Fail behind an error")

	r = raw.NewReader("")
	r.Fail(-1)
	wantState(t, r, state{-1, 0, 0}, "Fail(-1)")
	wantStopped(t, r, "Fail(-1)")
}

// 1.2: End: the error; else ErrMore, that stays, if some are left; else OK, which stops nothing.
func TestReaderEnd(t *testing.T) {
	r := raw.NewReader("")
	if e := r.End(); e != api.OK {
		t.Error("End of nothing:", e)
	}
	r.Fail(api.ErrForm)
	if e := r.End(); e != api.ErrForm {
		t.Error("End, nothing left, behind Fail:", e)
	}

	r = raw.NewReader("\x01\x02")
	r.Number(1)
	if e := r.End(); e != api.ErrMore {
		t.Error("End, one left:", e)
	}
	wantState(t, r, state{api.ErrMore, 1, 1}, "End, one left")
	if n := r.Number(1); n != 0 {
		t.Error("Number behind End:", n)
	}
	wantStopped(t, r, "End, one left")

	r = raw.NewReader("\x01\x02")
	r.Bytes(3)
	if e := r.End(); e != api.ErrCut {
		t.Error("End, two left, behind ErrCut:", e)
	}

	r = raw.NewReader("\x01")
	r.Number(1)
	if e := r.End(); e != api.OK {
		t.Error("End, none left:", e)
	}
	if n, s := r.Number(0), r.Bytes(0); n != 0 || s != "" || r.End() != api.OK {
		t.Error("behind End:", n, s, r.Err())
	}
}

// 1.3: a reader that is nil.
func TestReaderNil(t *testing.T) {
	var r *raw.Reader
	if n := r.Number(1); n != 0 {
		t.Error("Number:", n)
	}
	if n := r.Number(9); n != 0 {
		t.Error("Number(9):", n)
	}
	if s := r.Bytes(1); s != "" {
		t.Error("Bytes:", s)
	}
	if s := r.Text(1); s != "" {
		t.Error("Text:", s)
	}
	if r.Bool() {
		t.Error("Bool: true")
	}
	r.Fail(api.ErrForm)
	wantState(t, r, state{api.ErrArg, 0, 0}, "nil")
	if e := r.End(); e != api.ErrArg {
		t.Error("End:", e)
	}
}

// 1.2: readers of one text go on each by itself.
func TestReadersApart(t *testing.T) {
	s := "\x01\x02\x03"
	a, b := raw.NewReader(s), raw.NewReader(s)
	a.Number(2)
	a.Fail(api.ErrForm)
	if n := b.Number(1); n != 1 {
		t.Error("the other one:", n)
	}
	wantState(t, b, state{api.OK, 1, 2}, "the other one")
}
