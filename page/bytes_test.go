package page_test

import (
	"encoding/binary"
	"hash/crc32"
	"math"
	"strings"
	"testing"

	"girder/api"
	"girder/page"
)

// lay is the bytes of a page whose parts are handed in one by one, with a right sum: such as Encode makes, and such as it never would.
func lay(lsn uint64, number uint32, kind, head byte, rest string, tail uint64) string {
	b := binary.LittleEndian.AppendUint64(nil, lsn)
	b = binary.LittleEndian.AppendUint32(b, number)
	b = append(b, kind, head)
	b = append(b, rest...)
	b = append(b, make([]byte, 500-len(b))...)
	return summed(string(binary.LittleEndian.AppendUint64(b, tail)))
}

// summed is a sum and what it is the sum of.
func summed(s string) string {
	sum := crc32.Checksum([]byte(s), crc32.MakeTable(crc32.Castagnoli))
	return string(binary.LittleEndian.AppendUint32(nil, sum)) + s
}

// with is s with another byte at a place.
func with(s string, at int, b byte) string { return s[:at] + string([]byte{b}) + s[at+1:] }

// fitting is pages that Encode takes, up to the last byte of each part.
func fitting() []api.Sheet {
	all := api.LSN(math.MaxUint64)
	l := []api.Sheet{
		{},
		page.Blank(1),
		page.Blank(math.MaxUint32),
		{Number: 3, LSN: 9, Kind: 2, Slots: []string{"a", "b"}},
		{Number: 0x04030201, LSN: 0x0807060504030201, Kind: 0x99, Head: "hd", Slots: []string{"xyz", "", "w"}},
		{Number: 7, LSN: all, Kind: 255, Head: pattern(32)},
		{Number: 7, LSN: all, Head: strings.Repeat("\x00", 32)},
		{Number: 7, LSN: 1 << 63, Kind: 1, Head: "\x00", Slots: []string{"\x00"}},
		{Number: 7, LSN: 5, Kind: 1, Slots: []string{""}},
		{Number: 7, LSN: 5, Kind: 1, Slots: many(64, "")},
		{Number: 7, LSN: 5, Kind: 1, Slots: many(63, "")},
		{Number: 7, LSN: 5, Kind: 1, Slots: many(64, "abcde")},
		{Number: 7, LSN: 5, Kind: 1, Slots: []string{pattern(255)}},
		{Number: 7, LSN: 5, Kind: 1, Slots: []string{pattern(256)}},
		{Number: 7, LSN: 5, Kind: 1, Slots: []string{pattern(482)}},
		{Number: 7, LSN: 5, Kind: 1, Slots: []string{pattern(483)}},
		{Number: 7, LSN: all, Kind: 255, Slots: []string{strings.Repeat("\xff", 483)}},
		{Number: 7, LSN: 5, Kind: 1, Head: pattern(32), Slots: []string{pattern(451)}},
		{Number: 7, LSN: 5, Kind: 1, Head: pattern(32), Slots: append(many(63, "abcde"), pattern(10))},
		{Number: 7, LSN: 5, Kind: 1, Head: pattern(32), Slots: append(many(62, ""), pattern(300), pattern(25))},
	}
	return l
}

// 3.1: the bytes, part by part.
func TestEncodeBytes(t *testing.T) {
	for i, c := range []struct {
		p api.Sheet
		s string
	}{
		{api.Sheet{}, lay(0, 0, 0, 0, "\x00", 0)},
		{page.Blank(0x04030201), lay(0, 0x04030201, 0, 0, "\x00", 0)},
		{api.Sheet{Number: 3, LSN: 0x0807060504030201, Kind: 255}, lay(0x0807060504030201, 3, 255, 0, "\x00", 0x0807060504030201)},
		{api.Sheet{Number: 3, LSN: 9, Kind: 2, Head: "hd"}, lay(9, 3, 2, 2, "hd\x00", 9)},
		{api.Sheet{Number: 3, LSN: 9, Kind: 2, Slots: []string{"a", "", "bcd"}}, lay(9, 3, 2, 0, "\x03\x01\x00\x00\x00\x03\x00abcd", 9)},
		{api.Sheet{Number: 3, LSN: 9, Kind: 2, Head: "h", Slots: []string{pattern(258)}}, lay(9, 3, 2, 1, "h\x01\x02\x01"+pattern(258), 9)},
		{api.Sheet{Number: 3, LSN: 9, Kind: 2, Head: pattern(32), Slots: many(64, "")}, lay(9, 3, 2, 32, pattern(32)+"\x40"+strings.Repeat("\x00", 128), 9)},
		{api.Sheet{Slots: []string{pattern(483)}}, lay(0, 0, 0, 0, "\x01\xe3\x01"+pattern(483), 0)},
	} {
		if s, e := page.Encode(c.p); s != c.s || e != api.OK {
			t.Errorf("%d: %d\n%x, not\n%x", i, e, s, c.s)
		}
	}
}

// 3.1: the edges of what Encode takes; ErrArg comes ahead of ErrFull.
func TestEncodeErrors(t *testing.T) {
	for i, c := range []struct {
		p   api.Sheet
		err api.Errno
	}{
		{api.Sheet{Kind: 0}, api.OK},
		{api.Sheet{Kind: 255}, api.OK},
		{api.Sheet{Kind: -1}, api.ErrArg},
		{api.Sheet{Kind: 256}, api.ErrArg},
		{api.Sheet{Kind: math.MinInt}, api.ErrArg},
		{api.Sheet{Kind: math.MaxInt}, api.ErrArg},
		{api.Sheet{Head: pattern(32)}, api.OK},
		{api.Sheet{Head: pattern(33)}, api.ErrArg},
		{api.Sheet{Head: pattern(256)}, api.ErrArg},
		{api.Sheet{Head: pattern(1000)}, api.ErrArg},
		{api.Sheet{Slots: many(64, "")}, api.OK},
		{api.Sheet{Slots: many(65, "")}, api.ErrArg},
		{api.Sheet{Slots: many(256, "")}, api.ErrArg},
		{api.Sheet{Slots: many(1000, "")}, api.ErrArg},

		{api.Sheet{Slots: []string{pattern(483)}}, api.OK},
		{api.Sheet{Slots: []string{pattern(484)}}, api.ErrFull},
		{api.Sheet{Slots: []string{"", pattern(481)}}, api.OK},
		{api.Sheet{Slots: []string{"", pattern(482)}}, api.ErrFull},
		{api.Sheet{Slots: append(many(63, "abcde"), pattern(42))}, api.OK},
		{api.Sheet{Slots: append(many(63, "abcde"), pattern(43))}, api.ErrFull},
		{api.Sheet{Head: pattern(32), Slots: []string{pattern(451)}}, api.OK},
		{api.Sheet{Head: pattern(32), Slots: []string{pattern(452)}}, api.ErrFull},
		{api.Sheet{Slots: []string{pattern(65535)}}, api.ErrFull},
		{api.Sheet{Slots: []string{pattern(65536)}}, api.ErrFull},
		{api.Sheet{Slots: []string{pattern(65537)}}, api.ErrFull},
		{api.Sheet{Slots: many(64, pattern(1024))}, api.ErrFull},

		{api.Sheet{Kind: -1, Slots: []string{pattern(484)}}, api.ErrArg},
		{api.Sheet{Head: pattern(33), Slots: []string{pattern(484)}}, api.ErrArg},
		{api.Sheet{Slots: many(65, "abcdefgh")}, api.ErrArg},
	} {
		s, e := page.Encode(c.p)
		if e != c.err || (e != api.OK && s != "") || (e == api.OK && len(s) != 512) {
			t.Errorf("%d: %d bytes, %d, not %d", i, len(s), e, c.err)
		}
	}
}

// 3.5: Decode of Encode is the page, its LSN too; and bytes of one page are its bytes alone.
func TestDecodeOfEncode(t *testing.T) {
	told := map[string]int{}
	for i, p := range fitting() {
		s, e := page.Encode(p)
		if e != api.OK || len(s) != 512 {
			t.Fatalf("%d: Encode: %d bytes, %d", i, len(s), e)
		}
		if q, e := page.Decode(s); !equal(p, q) || e != api.OK {
			t.Errorf("%d: %+v, %d, not %+v", i, q, e, p)
		}
		if j, ok := told[s]; ok {
			t.Errorf("%d has the bytes of %d", i, j)
		}
		told[s] = i
	}
}

// 3.1: too few, and too many, ahead of all else.
func TestDecodeLong(t *testing.T) {
	good, _ := page.Encode(api.Sheet{Number: 3, LSN: 9, Kind: 2, Slots: []string{"a"}})
	zeros := strings.Repeat("\x00", 1024)
	for n := range 512 {
		for _, s := range []string{good[:n], zeros[:n]} {
			if p, e := page.Decode(s); !zero(p) || e != api.ErrCut {
				t.Errorf("%d bytes: %+v, %d", n, p, e)
			}
		}
	}
	for _, s := range []string{zeros[:513], zeros, good + "\x00", good + good, pattern(513), pattern(65536)} {
		if p, e := page.Decode(s); !zero(p) || e != api.ErrMore {
			t.Errorf("%d bytes: %+v, %d", len(s), p, e)
		}
	}
}

// 3.1: all zeros are the blank page of number 0; a byte that is none makes them something else.
func TestDecodeZeros(t *testing.T) {
	zeros := strings.Repeat("\x00", 512)
	if p, e := page.Decode(zeros); !zero(p) || e != api.OK {
		t.Errorf("zeros: %+v, %d", p, e)
	}
	for at := range 512 {
		want := api.ErrSum
		if at >= 4 && at < 12 || at >= 504 {
			want = api.ErrTorn
		}
		if p, e := page.Decode(with(zeros, at, 1)); !zero(p) || e != want {
			t.Errorf("zeros but at %d: %+v, %d, not %d", at, p, e, want)
		}
	}
}

// 3.1: another byte, at each place: of the LSN, at its two places, it is torn; else the sum is another one.
func TestDecodeAnotherByte(t *testing.T) {
	for i, p := range fitting() {
		s, _ := page.Encode(p)
		for at := range 512 {
			want := api.ErrSum
			if at >= 4 && at < 12 || at >= 504 {
				want = api.ErrTorn
			}
			for _, turned := range []byte{1, 0x80, 0xff} {
				if q, e := page.Decode(with(s, at, s[at]^turned)); !zero(q) || e != want {
					t.Errorf("page %d, another byte at %d: %+v, %d, not %d", i, at, q, e, want)
				}
			}
		}
	}
}

// 3.1: another LSN at the end is told ahead of the sum, ahead of the form, and with a right sum.
func TestDecodeTorn(t *testing.T) {
	for _, c := range []struct{ lsn, tail uint64 }{
		{9, 8}, {9, 10}, {9, 0}, {0, 9}, {1, 1 << 56}, {1 << 56, 1}, {math.MaxUint64, math.MaxUint64 >> 8}, {9, 9 | 1<<63},
	} {
		s := lay(c.lsn, 3, 2, 0, "\x01\x01\x00a", c.tail)
		bad := lay(c.lsn, 3, 2, 33, "\xff", c.tail)
		for _, s := range []string{s, with(s, 0, s[0]^1), with(s, 40, s[40]^1), bad, with(bad, 3, bad[3]^1)} {
			if p, e := page.Decode(s); !zero(p) || e != api.ErrTorn {
				t.Errorf("%d, at the end %d: %+v, %d", c.lsn, c.tail, p, e)
			}
		}
	}
}

// Words: a page of which only the first bytes were written, over one of another LSN, is told, wherever it was torn.
func TestDecodeTornWrite(t *testing.T) {
	was, _ := page.Encode(api.Sheet{Number: 3, LSN: 0x0101010101010101, Kind: 2, Slots: []string{pattern(480)}})
	now, _ := page.Encode(api.Sheet{Number: 3, LSN: 0x0202020202020202, Kind: 2, Slots: []string{pattern(470), "a"}})
	for n := 1; n < 512; n++ {
		want := api.ErrTorn
		if n <= 4 {
			want = api.ErrSum
		}
		if p, e := page.Decode(now[:n] + was[n:]); !zero(p) || e != want {
			t.Errorf("torn at %d: %+v, %d, not %d", n, p, e, want)
		}
		if p, e := page.Decode(now[:n] + strings.Repeat("\x00", 512-n)); n <= 504 && (!zero(p) || e == api.OK) {
			t.Errorf("torn at %d, over zeros: %+v, %d", n, p, e)
		}
	}
}

// 3.1: another sum is told ahead of the form.
func TestDecodeSum(t *testing.T) {
	for _, s := range []string{
		lay(9, 3, 2, 0, "\x01\x01\x00a", 9),
		lay(9, 3, 2, 33, pattern(33), 9),
		lay(9, 3, 2, 0, "\x41", 9),
		lay(9, 3, 2, 0, "\x00\x01", 9),
	} {
		for at := range 4 {
			if p, e := page.Decode(with(s, at, s[at]^0x10)); !zero(p) || e != api.ErrSum {
				t.Errorf("another sum: %+v, %d", p, e)
			}
		}
	}
}

// 3.1: bytes with a right sum and one LSN that are nevertheless those of no page, each beside its neighbour that is one.
func TestDecodeForm(t *testing.T) {
	for i, c := range []struct {
		head byte
		rest string
		err  api.Errno
	}{
		{0, "\x00", api.OK},
		{0, "\x00" + strings.Repeat("\x00", 484) + "\x01", api.ErrForm},
		{0, "\x00\x01", api.ErrForm},
		{0, "\x00\x00\x01", api.ErrForm},
		{0, "\x01\x01\x00a", api.OK},
		{0, "\x01\x01\x00a\x01", api.ErrForm},
		{0, "\x01\x00\x00a", api.ErrForm},
		{0, "\x01\x01\x00a\x00\x00\x00\xff", api.ErrForm},
		{32, pattern(32) + "\x00", api.OK},
		{33, pattern(32) + "\x00", api.ErrForm},
		{33, strings.Repeat("\x00", 34), api.ErrForm},
		{255, "", api.ErrForm},
		{128, "", api.ErrForm},
		{0, "\x40", api.OK},
		{0, "\x41", api.ErrForm},
		{0, "\x80", api.ErrForm},
		{0, "\xff", api.ErrForm},
		{0, "\x01\xe3\x01" + strings.Repeat("\x07", 483), api.OK},
		{0, "\x01\xe4\x01" + strings.Repeat("\x07", 483), api.ErrForm},
		{0, "\x01\xec\x01" + strings.Repeat("\x07", 483), api.ErrForm},
		{0, "\x01\xed\x01" + strings.Repeat("\x07", 483), api.ErrForm},
		{0, "\x01\xff\xff", api.ErrForm},
		{0, "\x01\x00\x80", api.ErrForm},
		{0, "\x02\xe1\x01\x00\x00" + strings.Repeat("\x07", 481), api.OK},
		{0, "\x02\xe1\x01\x01\x00" + strings.Repeat("\x07", 481), api.ErrForm},
		{0, "\x02\xff\xff\x01\x00", api.ErrForm},
		{32, pattern(32) + "\x01\xc3\x01" + strings.Repeat("\x07", 451), api.OK},
		{32, pattern(32) + "\x01\xc4\x01" + strings.Repeat("\x07", 451), api.ErrForm},
		{32, pattern(32) + "\x40" + strings.Repeat("\x05\x00", 63) + "\x0a\x00" + strings.Repeat("\x07", 325), api.OK},
		{32, pattern(32) + "\x40" + strings.Repeat("\x05\x00", 64) + strings.Repeat("\x07", 325), api.ErrForm},
		{32, pattern(32) + "\x40" + strings.Repeat("\x05\x00", 63) + "\x0b\x00" + strings.Repeat("\x07", 325), api.ErrForm},
	} {
		s := lay(9, 3, 2, c.head, c.rest, 9)
		p, e := page.Decode(s)
		if e != c.err || (e != api.OK && !zero(p)) {
			t.Errorf("%d: %+v, %d, not %d", i, p, e, c.err)
			continue
		}
		if e != api.OK {
			continue
		}
		if again, e := page.Encode(p); again != s || e != api.OK {
			t.Errorf("%d: other bytes when laid again: %d", i, e)
		}
	}
}

// 3.1: whatever the bytes are, Decode is a page just when they are what Encode of it is.
func TestDecodeIsOfEncode(t *testing.T) {
	pages, wrong := 0, 0
	for seed := range 3000 {
		b := []byte(lay(9, 3, byte(seed), byte(seed%40), pattern(seed % 40)[:seed%40]+string([]byte{byte(seed / 7 % 70)}), 9)[4:])
		for i := range seed % 5 {
			b[14+(seed*31+i*97)%480] = byte(seed >> i)
		}
		s := summed(string(b))
		p, e := page.Decode(s)
		if e != api.OK {
			wrong++
			if e != api.ErrForm || !zero(p) {
				t.Errorf("%x: %+v, %d", s, p, e)
			}
			continue
		}
		pages++
		if again, e := page.Encode(p); again != s || e != api.OK {
			t.Errorf("%x: other bytes when laid again: %d", s, e)
		}
	}
	if pages < 100 || wrong < 100 {
		t.Error("too few of a sort:", pages, wrong)
	}
}

// R4: two answers share nothing.
func TestDecodeApart(t *testing.T) {
	s, _ := page.Encode(api.Sheet{Number: 3, LSN: 9, Kind: 2, Slots: []string{"a", "b"}})
	p, _ := page.Decode(s)
	q, _ := page.Decode(s)
	p.Slots[0] = "x"
	_ = append(p.Slots[:1], "y")
	if q.Slots[0] != "a" || q.Slots[1] != "b" {
		t.Error(q)
	}
}
