package key_test

import (
	"encoding/binary"
	"math"
	"math/rand"
	"strings"
	"testing"

	"girder/api"
	"girder/key"
)

// keyBytes is values as a key has them, byte by byte.
func keyBytes(l []api.Value) string {
	var b []byte
	for _, v := range l {
		b = append(b, byte(v.Kind))
		if v.Kind == 1 {
			b = binary.BigEndian.AppendUint64(b, uint64(v.N)+1<<63)
		}
		if v.Kind == 2 {
			for i := range len(v.S) {
				b = append(b, v.S[i])
				if v.S[i] == 0 {
					b = append(b, 255)
				}
			}
			b = append(b, 0, 0)
		}
	}
	return string(b)
}

// wantKey asks for a key.
func wantKey(t *testing.T, l []api.Value, want string) {
	t.Helper()
	if s, e := key.Key(l); s != want || e != api.OK {
		t.Errorf("Key of %+v: %x, %d, not %x", l, s, e, want)
	}
}

// wantNoKey asks for the error of values that have no key.
func wantNoKey(t *testing.T, l []api.Value, want api.Errno) {
	t.Helper()
	if s, e := key.Key(l); s != "" || e != want {
		t.Errorf("Key of %.200v: %x, %d, not %d", l, s, e, want)
	}
}

// 11.1: the bytes, laid by hand, with the chapter's example.
func TestKeyBytes(t *testing.T) {
	wantKey(t, nil, "")
	wantKey(t, list(), "")
	wantKey(t, list(none), "\x00")
	wantKey(t, list(num(-1)), "\x01\x7f\xff\xff\xff\xff\xff\xff\xff")
	wantKey(t, list(num(0)), "\x01\x80\x00\x00\x00\x00\x00\x00\x00")
	wantKey(t, list(num(1)), "\x01\x80\x00\x00\x00\x00\x00\x00\x01")
	wantKey(t, list(num(0x0102030405060708)), "\x01\x81\x02\x03\x04\x05\x06\x07\x08")
	wantKey(t, list(num(math.MinInt64)), "\x01\x00\x00\x00\x00\x00\x00\x00\x00")
	wantKey(t, list(num(math.MaxInt64)), "\x01\xff\xff\xff\xff\xff\xff\xff\xff")
	wantKey(t, list(text("")), "\x02\x00\x00")
	wantKey(t, list(text("ab")), "\x02ab\x00\x00")
	wantKey(t, list(text("\x00")), "\x02\x00\xff\x00\x00")
	wantKey(t, list(text("a\x00b")), "\x02a\x00\xffb\x00\x00")
	wantKey(t, list(text("\x00\x00\xff\x01")), "\x02\x00\xff\x00\xff\xff\x01\x00\x00")
	wantKey(t, list(none, num(258), text("a"), none), "\x00\x01\x80\x00\x00\x00\x00\x00\x01\x02\x02a\x00\x00\x00")
	for _, l := range rows() {
		if s := keyBytes(l); len(s) <= 64 {
			wantKey(t, l, s)
		}
	}
}

// 11.1: MaxKey bytes, and one more, of any number of values; bytes 0 count with what stands behind them.
func TestKeyLong(t *testing.T) {
	full, zeros := text(long(20)), text(strings.Repeat("\x00", 20))
	fits, not := 0, 0
	for n := range 67 {
		for _, l := range [][]api.Value{
			make([]api.Value, n),
			append(list(full, full), make([]api.Value, n)...),
			append(list(zeros), make([]api.Value, n)...),
			append(list(num(1), num(2), num(3), num(4), num(5), num(6), num(7)), make([]api.Value, n)...),
			list(full, full, text(long(n%21))),
			list(zeros, text(strings.Repeat("\x00", n%21))),
			list(zeros, text(long(n%21))),
		} {
			if s := keyBytes(l); len(s) <= 64 {
				fits++
				wantKey(t, l, s)
			} else {
				not++
				wantNoKey(t, l, api.ErrKey)
			}
		}
	}
	if fits < 100 || not < 100 {
		t.Error("too few of a sort:", fits, not)
	}
	wantKey(t, make([]api.Value, 64), strings.Repeat("\x00", 64))
	wantNoKey(t, make([]api.Value, 65), api.ErrKey)
	wantKey(t, list(full, full, text(long(15))), keyBytes(list(full, full, text(long(15)))))
	wantNoKey(t, list(full, full, text(long(16))), api.ErrKey)
	wantNoKey(t, list(zeros, zeros), api.ErrKey)
	wantNoKey(t, make([]api.Value, 100000), api.ErrKey)
}

// 11.1: a value that may not be, wherever it stands; ErrValue comes ahead of ErrKey.
func TestKeyValue(t *testing.T) {
	for _, v := range bad() {
		for _, l := range [][]api.Value{{v}, {v, none}, {none, v}, {num(1), text("a"), v}} {
			wantNoKey(t, l, api.ErrValue)
		}
		wantNoKey(t, append(list(v), make([]api.Value, 100)...), api.ErrValue)
		wantNoKey(t, append(make([]api.Value, 100), v), api.ErrValue)
	}
}

// wantOrder asks for two lists in the order that is told: by Compare and, if they have keys and are as long, by their keys' bytes.
func wantOrder(t *testing.T, a, b []api.Value, want int) {
	t.Helper()
	if got := key.Compare(a, b); got != want {
		t.Errorf("Compare of %+v and %+v: %d, not %d", a, b, got, want)
	}
	s, e := key.Key(a)
	r, f := key.Key(b)
	if e != api.OK || f != api.OK || len(a) != len(b) {
		return
	}
	if got := strings.Compare(s, r); got != want {
		t.Errorf("keys of %+v and %+v: %x and %x: %d, not %d", a, b, s, r, got, want)
	}
}

// standing is which of two values that may be stands first: none, numbers by their size, texts by their bytes.
func standing(a, b api.Value) int {
	switch {
	case a == b:
		return 0
	case a.Kind < b.Kind, a.Kind == 1 && b.Kind == 1 && a.N < b.N, a.Kind == 2 && b.Kind == 2 && a.S < b.S:
		return -1
	}
	return 1
}

// 11.3: keys of one value each stand in the order of the values, all pairs.
func TestKeyOrder(t *testing.T) {
	l := good()
	for _, a := range l {
		for _, b := range l {
			wantOrder(t, list(a), list(b), standing(a, b))
		}
	}
}

// 11.3: keys of several values: the first that differ tell, whatever stands behind them.
func TestKeyOrderOfMany(t *testing.T) {
	few := list(none, num(math.MinInt64), num(-1), num(0), num(1), num(256), num(math.MaxInt64))
	for _, s := range []string{"", "\x00", "\x00\x00", "\x00\x01", "\x01", "\xff", "a", "a\x00", "a\x00\xff", "a\x00b", "a\x01", "a\xff", "aa"} {
		few = append(few, text(s))
	}
	for _, a := range few {
		for _, b := range few {
			for _, c := range few {
				for _, d := range few {
					want := standing(a, c)
					if want == 0 {
						want = standing(b, d)
					}
					wantOrder(t, list(a, b), list(c, d), want)
				}
			}
		}
	}
}

// 11.3: as many values of any sort, one to four of them, often with the same ones ahead.
func TestKeyOrderOfAny(t *testing.T) {
	r := rand.New(rand.NewSource(11))
	for range 200000 {
		n := 1 + r.Intn(4)
		a, b := make([]api.Value, n), make([]api.Value, n)
		want := 0
		for i := range n {
			a[i] = anyValue(r)
			b[i] = a[i]
			if r.Intn(3) == 0 {
				b[i] = anyValue(r)
			}
			if want == 0 {
				want = standing(a[i], b[i])
			}
		}
		wantOrder(t, a, b, want)
	}
}

// anyValue is a value that may be, of few enough that two are often alike in part.
func anyValue(r *rand.Rand) api.Value {
	switch r.Intn(4) {
	case 0:
		return none
	case 1:
		return num(int64(r.Uint64()) >> r.Intn(64))
	}
	b := make([]byte, r.Intn(5))
	for i := range b {
		b[i] = "\x00\x01\x02a\xfe\xff"[r.Intn(6)]
	}
	return text(string(b))
}
