package key_test

import (
	"math"
	"math/big"
	"math/rand"
	"strings"
	"testing"

	"girder/api"
	"girder/key"
)

// none is the value without a value.
var none = api.Value{}

func num(n int64) api.Value { return api.Value{Kind: 1, N: n} }

func text(s string) api.Value { return api.Value{Kind: 2, S: s} }

// list is values behind one another.
func list(l ...api.Value) []api.Value { return l }

// long is a text of n bytes, each other than the one ahead.
func long(n int) string { return strings.Repeat("abcdefghij", n/10+1)[:n] }

// numbers is numbers at the edges, and some between.
func numbers() []int64 {
	l := []int64{math.MinInt64, math.MinInt64 + 1, -1 << 32, -65536, -257, -256, -255, -2, -1, 0, 1, 2, 9, 10, 11, 99, 100, 127, 128, 255, 256, 257, 65535, 65536, 1<<32 - 1, 1 << 32, math.MaxInt64 - 1, math.MaxInt64}
	for i := range 63 {
		l = append(l, 1<<i, -1<<i, 1<<i+3, 0x0102030405060708>>i)
	}
	return l
}

// texts is texts at the edges: empty, with bytes 0 and 255, of 20 bytes, with what stands in other values' texts.
func texts() []string {
	return []string{"", "\x00", "\x00\x00", "\x00\xff", "\xff", "\xff\xff", "\xff\x00", "\x00\x00\x00", "\x01", "\x00\x01", "\x01\x00", "\x02", "a", "a\x00", "a\x00b", "a\x00\xff", "a\x00\x00", "a\x00\x00b", "a\x01", "ab", "b", "-", "'", "''", "0", "7", "-1", " ", "\n", "ä", "\xc3", long(19), long(20), strings.Repeat("\x00", 19), strings.Repeat("\x00", 20), strings.Repeat("\xff", 20)}
}

// good is values that may be.
func good() []api.Value {
	l := list(none)
	for _, n := range numbers() {
		l = append(l, num(n))
	}
	for _, s := range texts() {
		l = append(l, text(s))
	}
	return l
}

// bad is values that may not be.
func bad() []api.Value {
	l := list(
		api.Value{Kind: 0, N: 1}, api.Value{Kind: 0, N: -1}, api.Value{Kind: 0, N: math.MinInt64}, api.Value{Kind: 0, S: "a"}, api.Value{Kind: 0, S: "\x00"}, api.Value{Kind: 0, N: 1, S: "a"},
		api.Value{Kind: 1, S: "a"}, api.Value{Kind: 1, N: 7, S: "\x00"}, api.Value{Kind: 1, N: 7, S: long(21)},
		api.Value{Kind: 2, N: 1}, api.Value{Kind: 2, N: -1, S: "a"}, api.Value{Kind: 2, N: math.MinInt64, S: long(20)},
		text(long(21)), text(long(22)), text(strings.Repeat("\x00", 21)), text(long(255)), text(long(256)), text(long(276)), text(long(65536)), api.Value{Kind: 2, N: 1, S: long(21)})
	for _, kind := range []int{math.MinInt, -256, -255, -254, -3, -2, -1, 3, 4, 5, 255, 256, 257, 258, 1<<32 + 1, 1<<32 + 2, math.MaxInt} {
		l = append(l, api.Value{Kind: kind}, api.Value{Kind: kind, N: 1}, api.Value{Kind: kind, S: "a"})
	}
	return l
}

// 11.1: values that may be, and that may not: kinds, texts of 20 bytes and of 21, fields that must be zero.
func TestCheck(t *testing.T) {
	for _, v := range good() {
		if e := key.Check(v); e != api.OK {
			t.Errorf("%+v: %d", v, e)
		}
	}
	for _, v := range bad() {
		if e := key.Check(v); e != api.ErrValue {
			t.Errorf("%+v: %d", v, e)
		}
	}
}

// 11.1: a text may have any length up to 20, and none above.
func TestCheckLengths(t *testing.T) {
	for n := range 300 {
		want := api.OK
		if n > 20 {
			want = api.ErrValue
		}
		if e := key.Check(text(long(n))); e != want {
			t.Errorf("%d bytes: %d", n, e)
		}
	}
}

// 11.1: each byte may stand in a text.
func TestCheckBytes(t *testing.T) {
	for b := range 256 {
		if e := key.Check(text(string([]byte{byte(b)}))); e != api.OK {
			t.Errorf("byte %d: %d", b, e)
		}
	}
}

// 11.2: Text, with the chapter's example, and the least and the greatest number.
func TestText(t *testing.T) {
	for _, c := range []struct {
		v    api.Value
		want string
	}{
		{none, "-"},
		{num(0), "0"}, {num(7), "7"}, {num(10), "10"}, {num(-1), "-1"}, {num(-10), "-10"}, {num(1000000), "1000000"},
		{num(math.MaxInt64), "9223372036854775807"}, {num(math.MinInt64), "-9223372036854775808"},
		{text("ab"), "'ab"}, {text(""), "'"}, {text("'"), "''"}, {text("-"), "'-"}, {text("7"), "'7"}, {text("a b\n"), "'a b\n"}, {text("\x00\xff"), "'\x00\xff"}, {text(long(20)), "'" + long(20)},
		// Those that may not be have a text by their Kind, too.
		{api.Value{Kind: 0, N: 5, S: "a"}, "-"}, {api.Value{Kind: 1, N: 5, S: "a"}, "5"}, {api.Value{Kind: 2, N: 5, S: "a"}, "'a"}, {text(long(21)), "'" + long(21)}, {text(long(300)), "'" + long(300)},
		{api.Value{Kind: 3, N: 5, S: "a"}, "-"}, {api.Value{Kind: -1, N: 5, S: "a"}, "-"}, {api.Value{Kind: 257, N: 5}, "-"}, {api.Value{Kind: 258, S: "a"}, "-"}, {api.Value{Kind: math.MinInt}, "-"}, {api.Value{Kind: math.MaxInt}, "-"},
	} {
		if got := key.Text(c.v); got != c.want {
			t.Errorf("%+v: %q, not %q", c.v, got, c.want)
		}
	}
}

// 11.2: Parse of Text is the value, and no two values have one Text.
func TestParseOfText(t *testing.T) {
	told := map[string]api.Value{}
	for _, v := range good() {
		s := key.Text(v)
		if w, e := key.Parse(s); w != v || e != api.OK {
			t.Errorf("%q: %+v, %d, not %+v", s, w, e, v)
		}
		if w, ok := told[s]; ok && w != v {
			t.Errorf("%+v and %+v: both %q", v, w, s)
		}
		told[s] = v
	}
}

// wantParse asks Parse of a text that is a value's, or of one that is none's.
func wantParse(t *testing.T, s string, want api.Value, ok bool) {
	t.Helper()
	v, e := key.Parse(s)
	if ok && (v != want || e != api.OK) {
		t.Errorf("%.40q: %+v, %d, not %+v", s, v, e, want)
	}
	if !ok && (v != api.Value{} || e != api.ErrValue) {
		t.Errorf("%.40q is no value's: %+v, %d", s, v, e)
	}
}

// 11.2, R6: texts that are no value's: numbers in another form, one past the least and the greatest, texts of 21 bytes, and others.
func TestParseRefuses(t *testing.T) {
	for _, s := range []string{
		"", "01", "00", "007", "-0", "-00", "-01", "-007", "+0", "+1", "+", "--", "--1", "-+1", "- 1", " 1", "1 ", "1\n", "\x001", "1\x00", " ", "\n", "- ", " -", "-\n", "-'", "-'a",
		"9223372036854775808", "-9223372036854775809", "9223372036854775810", "18446744073709551615", "18446744073709551616", "18446744073709551617", "-18446744073709551615", "99999999999999999999", "-99999999999999999999", "09223372036854775807", "-09223372036854775808",
		"1_000", "0x1", "0b1", "0o7", "1e3", "1.0", "1.", ".5", "1,0", "Inf", "NaN", "inf", "-inf", "a", "ab", "none", "\"ab\"", "\"", "`", " 'a", "a'", "1'", "−1", "١", "１", "\u00a01",
		"'" + long(21), "'" + long(22), "'" + strings.Repeat("\x00", 21), "'" + long(65536), strings.Repeat("1", 20), strings.Repeat("0", 19), strings.Repeat("9", 100000), "-" + strings.Repeat("9", 100000), strings.Repeat("-", 1000),
	} {
		wantParse(t, s, api.Value{}, false)
	}
}

// 11.2: the edges that are values.
func TestParseEdges(t *testing.T) {
	wantParse(t, "-", none, true)
	wantParse(t, "0", num(0), true)
	wantParse(t, "-1", num(-1), true)
	wantParse(t, "9223372036854775807", num(math.MaxInt64), true)
	wantParse(t, "-9223372036854775808", num(math.MinInt64), true)
	wantParse(t, "'", text(""), true)
	wantParse(t, "''", text("'"), true)
	wantParse(t, "'ab", text("ab"), true)
	wantParse(t, "' ", text(" "), true)
	wantParse(t, "'\x00", text("\x00"), true)
	wantParse(t, "'-1", text("-1"), true)
	wantParse(t, "'"+long(20), text(long(20)), true)
}

// valueOf is the value of a text, by the chapter's words, digit by digit.
func valueOf(s string) (api.Value, bool) {
	if s == "-" {
		return none, true
	}
	if strings.HasPrefix(s, "'") {
		return text(s[1:]), len(s) <= 21
	}
	digits := strings.TrimPrefix(s, "-")
	if digits == "" || strings.Trim(digits, "0123456789") != "" || digits[0] == '0' && s != "0" {
		return none, false
	}
	n, ok := new(big.Int).SetString(s, 10)
	if !ok || !n.IsInt64() {
		return none, false
	}
	return num(n.Int64()), true
}

// 11.2: any text of up to two bytes, and longer ones of the bytes that numbers and texts are made of.
func TestParseAnyShort(t *testing.T) {
	all := make([]byte, 256)
	for i := range all {
		all[i] = byte(i)
	}
	each(string(all), 2, func(s string) { wantParseAsTold(t, s) })
	each("-+'019 _ax.\x00", 4, func(s string) { wantParseAsTold(t, s) })
	each("-0'19", 6, func(s string) { wantParseAsTold(t, s) })
}

// 11.2: any text that is longer, of digits above all: around the greatest number and past it.
func TestParseAnyLong(t *testing.T) {
	r := rand.New(rand.NewSource(11))
	may, not := 0, 0
	for range 200000 {
		b := make([]byte, r.Intn(24))
		for i := range b {
			b[i] = "0123456789"[r.Intn(10)]
		}
		s := []string{"", "-", "'", "-9", "9", "922337203685477", "-922337203685477"}[r.Intn(7)] + string(b)
		wantParseAsTold(t, s)
		if _, ok := valueOf(s); ok {
			may++
		} else {
			not++
		}
	}
	if may < 10000 || not < 10000 {
		t.Error("too few of a sort:", may, not)
	}
}

// wantParseAsTold asks Parse for what valueOf tells.
func wantParseAsTold(t *testing.T, s string) {
	t.Helper()
	v, ok := valueOf(s)
	wantParse(t, s, v, ok)
	if ok && key.Text(v) != s {
		t.Errorf("%q: Text %q", s, key.Text(v))
	}
}

// each calls f with each text of at most most of the letters.
func each(letters string, most int, f func(s string)) {
	var longer func(s string)
	longer = func(s string) {
		f(s)
		if len(s) == most {
			return
		}
		for i := range len(letters) {
			longer(s + letters[i:i+1])
		}
	}
	longer("")
}
