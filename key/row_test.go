package key_test

import (
	"encoding/binary"
	"math"
	"math/rand"
	"slices"
	"strings"
	"testing"

	"girder/api"
	"girder/key"
)

// rowBytes is values as a row has them, whether they may be or not: a count, and of each its Kind and what follows.
func rowBytes(l []api.Value) string {
	b := []byte{byte(len(l))}
	for _, v := range l {
		b = append(b, byte(v.Kind))
		if v.Kind == 1 {
			b = binary.LittleEndian.AppendUint64(b, uint64(v.N))
		}
		if v.Kind == 2 {
			b = append(b, byte(len(v.S)))
			b = append(b, v.S...)
		}
	}
	return string(b)
}

// rows is rows that may be: each good value alone, and some of them together, up to 60 bytes.
func rows() [][]api.Value {
	var l [][]api.Value
	for _, v := range good() {
		l = append(l, list(v), list(none, v), list(v, num(-1)), list(num(1), v, none), list(v, none, num(256), none), list(none, none, none, v))
	}
	return append(l,
		list(none, none, none, none), list(num(1), num(2), num(3), num(4)),
		list(text(""), text(""), text(""), text("")), list(text(long(12)), text(long(13)), text(long(13)), text(long(13))),
		list(text(long(20)), text(long(20)), text(long(13))), list(text(long(20)), text(long(20)), text(long(11)), text("")), list(num(1), text(long(20)), text(long(20)), text(long(4))))
}

// wantRow asks for a row's bytes, and for the row of them.
func wantRow(t *testing.T, l []api.Value, want string) {
	t.Helper()
	if s, e := key.Row(l); s != want || e != api.OK {
		t.Errorf("Row of %+v: %x, %d, not %x", l, s, e, want)
	}
	if v, e := key.Values(want); !slices.Equal(v, l) || e != api.OK {
		t.Errorf("Values of %x: %+v, %d, not %+v", want, v, e, l)
	}
}

// wantNoRow asks for the error of values that are no row.
func wantNoRow(t *testing.T, l []api.Value, want api.Errno) {
	t.Helper()
	if s, e := key.Row(l); s != "" || e != want {
		t.Errorf("Row of %+v: %q, %d, not %d", l, s, e, want)
	}
}

// wantNoValues asks for ErrForm of bytes that are no row's.
func wantNoValues(t *testing.T, s string) {
	t.Helper()
	if l, e := key.Values(s); len(l) != 0 || e != api.ErrForm {
		t.Errorf("Values of %.80q: %+v, %d", s, l, e)
	}
}

// 11.1: the bytes, laid by hand.
func TestRowBytes(t *testing.T) {
	wantRow(t, list(none), "\x01\x00")
	wantRow(t, list(num(0)), "\x01\x01\x00\x00\x00\x00\x00\x00\x00\x00")
	wantRow(t, list(num(1)), "\x01\x01\x01\x00\x00\x00\x00\x00\x00\x00")
	wantRow(t, list(num(-1)), "\x01\x01\xff\xff\xff\xff\xff\xff\xff\xff")
	wantRow(t, list(num(0x0102030405060708)), "\x01\x01\x08\x07\x06\x05\x04\x03\x02\x01")
	wantRow(t, list(num(math.MinInt64)), "\x01\x01\x00\x00\x00\x00\x00\x00\x00\x80")
	wantRow(t, list(num(math.MaxInt64)), "\x01\x01\xff\xff\xff\xff\xff\xff\xff\x7f")
	wantRow(t, list(text("")), "\x01\x02\x00")
	wantRow(t, list(text("ab")), "\x01\x02\x02ab")
	wantRow(t, list(text("\x00\xff")), "\x01\x02\x02\x00\xff")
	wantRow(t, list(text(long(20))), "\x01\x02\x14"+long(20))
	wantRow(t, list(none, num(258), text("a"), none), "\x04\x00\x01\x02\x01\x00\x00\x00\x00\x00\x00\x02\x01a\x00")
	wantRow(t, list(none, none, none, none), "\x04\x00\x00\x00\x00")
}

// 11.3: Values of Row is the row; and the bytes of one row are its alone.
func TestValuesOfRow(t *testing.T) {
	told := map[string][]api.Value{}
	for _, l := range rows() {
		s, _ := key.Row(l)
		wantRow(t, l, rowBytes(l))
		if w, ok := told[s]; ok && !slices.Equal(w, l) {
			t.Errorf("%+v and %+v: both %x", l, w, s)
		}
		told[s] = l
	}
}

// 11.1: 1 to MaxCols values; ErrCols comes ahead of ErrValue and ErrRow.
func TestRowCols(t *testing.T) {
	wantNoRow(t, nil, api.ErrCols)
	wantNoRow(t, list(), api.ErrCols)
	for n := 1; n <= 4; n++ {
		wantRow(t, make([]api.Value, n), string(rune(n))+strings.Repeat("\x00", n))
	}
	for _, n := range []int{5, 6, 60, 255, 256, 257, 258, 260, 1000} {
		wantNoRow(t, make([]api.Value, n), api.ErrCols)
	}
	for _, v := range bad() {
		wantNoRow(t, list(v, none, none, none, none), api.ErrCols)
		wantNoRow(t, list(none, none, none, none, v), api.ErrCols)
	}
	full := text(long(20))
	wantNoRow(t, list(full, full, full, full, full), api.ErrCols)
}

// 11.1: a value that may not be, wherever it stands; ErrValue comes ahead of ErrRow.
func TestRowValue(t *testing.T) {
	full := text(long(20))
	for _, v := range bad() {
		for _, l := range [][]api.Value{{v}, {v, none}, {none, v}, {v, v}, {none, none, none, v}, {v, full, full, full}, {full, full, full, v}} {
			wantNoRow(t, l, api.ErrValue)
		}
	}
}

// 11.1: MaxRow bytes, and one more.
func TestRowLong(t *testing.T) {
	full := text(long(20))
	for n := range 21 {
		for _, c := range []struct {
			l    []api.Value
			rest int // bytes beside those of the last text
		}{
			{list(full, full, text(long(n))), 1 + 22 + 22 + 2},
			{list(num(1), full, full, text(long(n))), 1 + 9 + 22 + 22 + 2},
			{list(num(1), num(2), full, text(long(n))), 1 + 9 + 9 + 22 + 2},
			{list(none, full, full, text(strings.Repeat("\x00", n))), 1 + 1 + 22 + 22 + 2},
			{list(full, full, text(""), text(long(n))), 1 + 22 + 22 + 2 + 2},
			{list(full, full, full, text(long(n))), 1 + 22 + 22 + 22 + 2},
		} {
			s := rowBytes(c.l)
			if len(s) != c.rest+n {
				t.Fatal(len(s), c.rest+n)
			}
			if len(s) <= 60 {
				wantRow(t, c.l, s)
			} else {
				wantNoRow(t, c.l, api.ErrRow)
				wantNoValues(t, s)
			}
		}
	}
	wantNoRow(t, list(full, full, full, full), api.ErrRow)
}

// 11.1: bytes that are cut short, at each place, or with something behind or ahead.
func TestValuesCutAndMore(t *testing.T) {
	wantNoValues(t, "")
	for _, l := range rows() {
		s := rowBytes(l)
		for n := range len(s) {
			wantNoValues(t, s[:n])
		}
		for _, more := range []string{"\x00", "\x01", "\x02", "\xff", "\x02\x00", "\x00\x00\x00", s, long(60)} {
			wantNoValues(t, s+more)
		}
	}
}

// 11.1: bytes that say no row: no value, too many, a Kind that is none, a length past the end, a text of more than 20 bytes.
func TestValuesRefuses(t *testing.T) {
	wantNoValues(t, "\x00")
	wantNoValues(t, "\x00\x00")
	for n := 5; n < 256; n++ {
		wantNoValues(t, string([]byte{byte(n)})+strings.Repeat("\x00", n))
		wantNoValues(t, string([]byte{byte(n)})+strings.Repeat("\x00", 4))
	}
	for kind := 3; kind < 256; kind++ {
		for _, more := range []string{"", "\x00", "\x01a", "\x00\x00\x00\x00\x00\x00\x00\x00"} {
			wantNoValues(t, "\x01"+string([]byte{byte(kind)})+more)
		}
		wantNoValues(t, "\x02\x00"+string([]byte{byte(kind)}))
	}
	for n := range 256 {
		head := "\x01\x02" + string([]byte{byte(n)})
		if n > 0 {
			wantNoValues(t, head+long(n-1))
			wantNoValues(t, head)
		}
		wantNoValues(t, head+long(n+1))
		if n <= 20 {
			wantRow(t, list(text(long(n))), head+long(n))
		} else {
			wantNoValues(t, head+long(n))
		}
	}
	wantNoValues(t, strings.Repeat("\x01", 1<<20))
	wantNoValues(t, long(1<<20))
}

// valuesOf is the values of bytes, by the chapter's words, byte by byte.
func valuesOf(s string) ([]api.Value, bool) {
	if len(s) == 0 || len(s) > 60 || s[0] < 1 || s[0] > 4 {
		return nil, false
	}
	var l []api.Value
	n, rest := int(s[0]), s[1:]
	for range n {
		switch {
		case len(rest) >= 1 && rest[0] == 0:
			l, rest = append(l, none), rest[1:]
		case len(rest) >= 9 && rest[0] == 1:
			l, rest = append(l, num(int64(binary.LittleEndian.Uint64([]byte(rest[1:9]))))), rest[9:]
		case len(rest) >= 2 && rest[0] == 2 && rest[1] <= 20 && len(rest) >= 2+int(rest[1]):
			end := 2 + int(rest[1])
			l, rest = append(l, text(rest[2:end])), rest[end:]
		default:
			return nil, false
		}
	}
	return l, rest == ""
}

// wantValuesAsTold asks Values for what valuesOf tells, and tells whether it is a row.
func wantValuesAsTold(t *testing.T, s string) bool {
	t.Helper()
	l, ok := valuesOf(s)
	if ok {
		wantRow(t, l, s)
	} else {
		wantNoValues(t, s)
	}
	return ok
}

// 11.1: any bytes: short ones, rows with another byte at each place, and rows with some bytes changed, put in and taken out.
func TestValuesAny(t *testing.T) {
	all := make([]byte, 256)
	for i := range all {
		all[i] = byte(i)
	}
	each(string(all), 2, func(s string) { wantValuesAsTold(t, s) })
	each("\x00\x01\x02\x03\x04\x05\x14\xff", 6, func(s string) { wantValuesAsTold(t, s) })
	may, not := 0, 0
	count := func(ok bool) {
		if ok {
			may++
		} else {
			not++
		}
	}
	for _, l := range [][]api.Value{{num(7)}, {text("ab")}, {none, num(-1), text(long(20)), text("")}, {text(long(20)), text(long(20)), text(long(13))}} {
		s := rowBytes(l)
		for at := range len(s) {
			for v := range 256 {
				count(wantValuesAsTold(t, s[:at]+string([]byte{byte(v)})+s[at+1:]))
			}
		}
	}
	r := rand.New(rand.NewSource(11))
	from := rows()
	for range 100000 {
		count(wantValuesAsTold(t, spoiled(r, rowBytes(from[r.Intn(len(from))]))))
	}
	if may < 10000 || not < 10000 {
		t.Error("too few of a sort:", may, not)
	}
}

// spoiled is bytes of which one or two were changed, put in or taken out.
func spoiled(r *rand.Rand, s string) string {
	b := []byte(s)
	for range 1 + r.Intn(2) {
		at := r.Intn(len(b) + 1)
		v := []byte{byte(r.Intn(256)), byte(r.Intn(6))}[r.Intn(2)]
		switch {
		case at == len(b) || r.Intn(3) == 0:
			b = slices.Insert(b, at, v)
		case r.Intn(2) == 0:
			b = slices.Delete(b, at, at+1)
		default:
			b[at] = v
		}
	}
	return string(b)
}

// wantPick asks for some of a row's values.
func wantPick(t *testing.T, row []api.Value, cols []int, want []api.Value) {
	t.Helper()
	if l, e := key.Pick(row, cols); !slices.Equal(l, want) || e != api.OK {
		t.Errorf("%v of %+v: %+v, %d", cols, row, l, e)
	}
}

// wantNoPick asks for ErrCols.
func wantNoPick(t *testing.T, row []api.Value, cols ...int) {
	t.Helper()
	if l, e := key.Pick(row, cols); len(l) != 0 || e != api.ErrCols {
		t.Errorf("%v of %+v: %+v, %d", cols, row, l, e)
	}
}

// 11.1: in the order of the columns, one twice, none.
func TestPick(t *testing.T) {
	a, b, c, d := none, num(7), text("x"), text("y")
	row := list(a, b, c, d)
	wantPick(t, row, []int{0, 1, 2, 3}, row)
	wantPick(t, row, []int{3, 2, 1, 0}, list(d, c, b, a))
	wantPick(t, row, []int{2}, list(c))
	wantPick(t, row, []int{0}, list(a))
	wantPick(t, row, []int{3}, list(d))
	wantPick(t, row, []int{1, 1}, list(b, b))
	wantPick(t, row, []int{2, 0, 2, 1, 2, 2}, list(c, a, c, b, c, c))
	wantPick(t, row, nil, nil)
	wantPick(t, row, []int{}, nil)
	wantPick(t, nil, nil, nil)
	wantPick(t, list(), []int{}, nil)
	wantPick(t, list(b), []int{0, 0, 0}, list(b, b, b))
	// More values than a row may have, and such as may not be: none of that is asked here.
	wide := append(slices.Clone(good()), bad()...)
	for i, v := range wide {
		wantPick(t, wide, []int{i, 0, i}, list(v, none, v))
	}
	wantPick(t, row, make([]int, 1000), make([]api.Value, 1000))
}

// 11.1: a column that is none of the row, wherever it stands.
func TestPickCols(t *testing.T) {
	for n := range 6 {
		row := make([]api.Value, n)
		for i := range row {
			row[i] = num(int64(i))
		}
		for _, c := range []int{math.MinInt, math.MinInt + 1, -1 << 32, -n - 1, -2, -1, n, n + 1, n + 256, 1 << 32, math.MaxInt} {
			wantNoPick(t, row, c)
			wantNoPick(t, row, 0, c)
			wantNoPick(t, row, c, 0)
			wantNoPick(t, row, 0, max(n-1, 0), c, 0)
		}
	}
	wantNoPick(t, nil, 0)
	wantNoPick(t, list(), 0)
}
