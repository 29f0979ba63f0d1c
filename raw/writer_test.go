package raw_test

import (
	"math"
	"testing"

	"girder/api"
	"girder/raw"
)

func wantAll(t *testing.T, w *raw.Writer, want string) {
	t.Helper()
	if s, n := w.All(), w.Len(); s != want || n != len(want) {
		t.Errorf("%d bytes %.20x, not %d bytes %.20x", n, s, len(want), want)
	}
}

// 1.3: each call puts its bytes behind what is there.
func TestWriter(t *testing.T) {
	w := raw.NewWriter()
	wantAll(t, w, "")
	w.Number(258, 2)
	wantAll(t, w, "\x02\x01")
	w.Bytes("x\x00")
	wantAll(t, w, "\x02\x01x\x00")
	w.Bytes("")
	wantAll(t, w, "\x02\x01x\x00")
	w.Bool(true)
	w.Bool(false)
	wantAll(t, w, "\x02\x01x\x00\x01\x00")
	if e := w.Text("ab"); e != api.OK {
		t.Error("Text:", e)
	}
	if e := w.Text(""); e != api.OK {
		t.Error("Text of nothing:", e)
	}
	wantAll(t, w, "\x02\x01x\x00\x01\x00\x02\x00ab\x00\x00")
}

// 1.3: Number puts what Put is, of a long that is too small or too great as well.
func TestWriterNumber(t *testing.T) {
	want := ""
	w := raw.NewWriter()
	for _, long := range []int{-1, 0, 1, 2, 3, 4, 5, 6, 7, 8, 9, math.MinInt, math.MaxInt} {
		w.Number(0x8877665544332211, long)
		want += raw.Put(0x8877665544332211, long)
		wantAll(t, w, want)
	}
}

// 1.3: a text of 65535 bytes is put, of 65536 nothing is, and the writer goes on.
func TestWriterText(t *testing.T) {
	w := raw.NewWriter()
	w.Bytes("x")
	if e := w.Text(pattern(65536)); e != api.ErrMore {
		t.Error("65536 bytes:", e)
	}
	wantAll(t, w, "x")
	if e := w.Text(pattern(65535)); e != api.OK {
		t.Error("65535 bytes:", e)
	}
	wantAll(t, w, "x\xff\xff"+pattern(65535))
	w.Bool(true)
	wantAll(t, w, "x\xff\xff"+pattern(65535)+"\x01")
}

// 1.3: a writer that is nil.
func TestWriterNil(t *testing.T) {
	var w *raw.Writer
	w.Number(1, 1)
	w.Bytes("a")
	w.Bool(true)
	for _, n := range []int{0, 1, 65535, 65536} {
		if e := w.Text(pattern(n)); e != api.ErrArg {
			t.Errorf("Text of %d bytes: %d", n, e)
		}
	}
	wantAll(t, w, "")
}

// 1.3, R4: what All told stays as it was; two writers share nothing.
func TestWriterApart(t *testing.T) {
	a, b := raw.NewWriter(), raw.NewWriter()
	a.Bytes("abc")
	was := a.All()
	for i := range 100 {
		a.Number(uint64(i), 1)
	}
	if was != "abc" || b.Len() != 0 {
		t.Errorf("%q, %d", was, b.Len())
	}
	b.Bytes("d")
	wantAll(t, b, "d")
	if a.Len() != 103 {
		t.Error(a.Len())
	}
}

// 1.4: what a writer put a reader takes, and nothing is left.
func TestWriterReader(t *testing.T) {
	w := raw.NewWriter()
	for long := range 9 {
		w.Number(0x8877665544332211, long)
	}
	for _, s := range samples() {
		w.Bytes(s)
		w.Bool(len(s)%2 == 0)
		w.Text(s)
	}
	w.Text(pattern(65535))

	r := raw.NewReader(w.All())
	for long := range 9 {
		want, _ := raw.Get(raw.Put(0x8877665544332211, long), 0, long)
		if n := r.Number(long); n != want {
			t.Errorf("Number(%d): %#x, not %#x", long, n, want)
		}
	}
	for _, s := range samples() {
		if got := r.Bytes(len(s)); got != s {
			t.Errorf("Bytes: %.20q, not %.20q", got, s)
		}
		if b := r.Bool(); b != (len(s)%2 == 0) {
			t.Errorf("Bool behind %d bytes: %t", len(s), b)
		}
		if got := r.Text(len(s)); got != s {
			t.Errorf("Text: %.20q, not %.20q", got, s)
		}
	}
	if got := r.Text(65535); got != pattern(65535) {
		t.Errorf("Text of %d bytes", len(got))
	}
	if e := r.End(); e != api.OK || r.At() != w.Len() || r.Left() != 0 {
		t.Error("End:", e, r.At(), r.Left())
	}
}
