package raw_test

import (
	"hash/crc32"
	"math"
	"strings"
	"testing"

	"girder/api"
	"girder/raw"
)

// pattern is n bytes of which neighbours differ, all 256 values among them.
func pattern(n int) string {
	b := make([]byte, n)
	for i := range n {
		b[i] = byte(i*167 + i>>8)
	}
	return string(b)
}

// samples are texts of many lengths and bytes.
func samples() []string {
	l := []string{"", "\x00", "\xff", "\x00\x00\x00\x00", "\xff\xff\xff\xff", "a", "ab", "123456789", "\x80\x00\x01"}
	for _, n := range []int{7, 8, 9, 31, 64, 255, 256, 257, 512, 4096} {
		l = append(l, pattern(n), strings.Repeat("\xff", n))
	}
	return l
}

// 1.1: the sums that are known of CRC-32C.
func TestSumKnown(t *testing.T) {
	for _, c := range []struct {
		s   string
		sum uint32
	}{
		{"", 0},
		{"123456789", 0xe3069283},
		{"a", 0xc1d04330},
		{strings.Repeat("\x00", 32), 0x8a9136aa},
		{strings.Repeat("\xff", 32), 0x62a8ab43},
	} {
		if sum := raw.Sum(c.s); sum != c.sum {
			t.Errorf("Sum(%q): %#x, not %#x", c.s, sum, c.sum)
		}
	}
}

// 1.1: each single byte, and longer texts, against another maker of the sum.
func TestSumAsElsewhere(t *testing.T) {
	table := crc32.MakeTable(crc32.Castagnoli)
	l := samples()
	for b := range 256 {
		l = append(l, string([]byte{byte(b)}))
	}
	for _, s := range l {
		if sum, want := raw.Sum(s), crc32.Checksum([]byte(s), table); sum != want {
			t.Errorf("Sum of %d bytes %.9q: %#x, not %#x", len(s), s, sum, want)
		}
	}
}

// 1.1: More goes on from any sum, that of no bytes being 0.
func TestMore(t *testing.T) {
	table := crc32.MakeTable(crc32.Castagnoli)
	for _, s := range samples() {
		if sum := raw.More(0, s); sum != raw.Sum(s) {
			t.Errorf("More(0, %.9q): %#x", s, sum)
		}
		for _, sum := range []uint32{0, 1, 0x80000000, 0x82f63b78, 0xffffffff, raw.Sum("x")} {
			if got, want := raw.More(sum, s), crc32.Update(sum, table, []byte(s)); got != want {
				t.Errorf("More(%#x, %.9q): %#x, not %#x", sum, s, got, want)
			}
		}
	}
	for _, sum := range []uint32{0, 1, 0xffffffff} {
		if got := raw.More(sum, ""); got != sum {
			t.Errorf("More(%#x, nothing): %#x", sum, got)
		}
	}
}

// 1.1: the lowest bytes first; long below 0 counts as 0, above 8 as 8.
func TestPut(t *testing.T) {
	const n = 0x8877665544332211
	all := "\x11\x22\x33\x44\x55\x66\x77\x88"
	for _, c := range []struct {
		n    uint64
		long int
		s    string
	}{
		{258, 2, "\x02\x01"},
		{258, 1, "\x02"},
		{258, 3, "\x02\x01\x00"},
		{0, 4, "\x00\x00\x00\x00"},
		{math.MaxUint64, 8, "\xff\xff\xff\xff\xff\xff\xff\xff"},
		{1 << 63, 8, "\x00\x00\x00\x00\x00\x00\x00\x80"},
		{n, -1, ""}, {n, math.MinInt, ""}, {n, 0, ""},
		{n, 1, all[:1]}, {n, 2, all[:2]}, {n, 3, all[:3]}, {n, 4, all[:4]},
		{n, 5, all[:5]}, {n, 6, all[:6]}, {n, 7, all[:7]}, {n, 8, all},
		{n, 9, all}, {n, math.MaxInt, all},
	} {
		if s := raw.Put(c.n, c.long); s != c.s {
			t.Errorf("Put(%#x, %d): %x, not %x", c.n, c.long, s, c.s)
		}
	}
}

// 1.1: ErrArg comes ahead of ErrCut; with an error the number is 0.
func TestGet(t *testing.T) {
	s := "\x11\x22\x33\x44\x55\x66\x77\x88\x99"
	for _, c := range []struct {
		s        string
		at, long int
		n        uint64
		err      api.Errno
	}{
		{s, 0, 0, 0, api.OK},
		{s, 0, 1, 0x11, api.OK},
		{s, 0, 2, 0x2211, api.OK},
		{s, 2, 3, 0x554433, api.OK},
		{s, 0, 8, 0x8877665544332211, api.OK},
		{s, 1, 8, 0x9988776655443322, api.OK},
		{s, 8, 1, 0x99, api.OK},
		{s, 9, 0, 0, api.OK},
		{"", 0, 0, 0, api.OK},
		{"\xff\xff\xff\xff\xff\xff\xff\xff", 0, 8, math.MaxUint64, api.OK},

		{s, 2, 8, 0, api.ErrCut},
		{s, 8, 2, 0, api.ErrCut},
		{s, 9, 1, 0, api.ErrCut},
		{s, 9, 8, 0, api.ErrCut},
		{"", 0, 1, 0, api.ErrCut},

		{s, 0, -1, 0, api.ErrArg},
		{s, 0, 9, 0, api.ErrArg},
		{s, 0, math.MinInt, 0, api.ErrArg},
		{s, 0, math.MaxInt, 0, api.ErrArg},
		{s, -1, 0, 0, api.ErrArg},
		{s, -1, 1, 0, api.ErrArg},
		{s, 10, 0, 0, api.ErrArg},
		{s, 10, 1, 0, api.ErrArg},
		{s, math.MaxInt, 8, 0, api.ErrArg},
		{s, math.MinInt, 8, 0, api.ErrArg},
		{s, 9, 9, 0, api.ErrArg},
		{s, 9, -1, 0, api.ErrArg},
		{"", 1, 0, 0, api.ErrArg},
		{"", 0, 9, 0, api.ErrArg},
	} {
		if n, err := raw.Get(c.s, c.at, c.long); n != c.n || err != c.err {
			t.Errorf("Get(%x, %d, %d): %#x, %d, not %#x, %d", c.s, c.at, c.long, n, err, c.n, c.err)
		}
	}
}

// 1.1: a text in bytes, up to 65535 of them.
func TestText(t *testing.T) {
	for _, c := range []struct {
		s, head string
		err     api.Errno
	}{
		{"", "\x00\x00", api.OK},
		{"ab", "\x02\x00", api.OK},
		{pattern(255), "\xff\x00", api.OK},
		{pattern(256), "\x00\x01", api.OK},
		{pattern(65535), "\xff\xff", api.OK},
		{pattern(65536), "", api.ErrMore},
		{pattern(65537), "", api.ErrMore},
		{pattern(131072), "", api.ErrMore},
	} {
		want := ""
		if c.err == api.OK {
			want = c.head + c.s
		}
		if s, err := raw.Text(c.s); s != want || err != c.err {
			t.Errorf("Text of %d bytes: %d bytes %.9x, %d", len(c.s), len(s), s, err)
		}
	}
}

// 1.4: a sum in two parts, cut anywhere, is the sum of the whole.
func TestSumInParts(t *testing.T) {
	for _, s := range samples() {
		for cut := 0; cut <= len(s); cut += 1 + len(s)/64 {
			if got := raw.More(raw.Sum(s[:cut]), s[cut:]); got != raw.Sum(s) {
				t.Errorf("%d bytes cut at %d: %#x, not %#x", len(s), cut, got, raw.Sum(s))
			}
		}
	}
}

// 1.4: what Put lays Get takes, of each length, anywhere.
func TestPutGet(t *testing.T) {
	for _, n := range []uint64{0, 1, 0x7f, 0x80, 0xff, 0x100, 0x8877665544332211, math.MaxUint64} {
		for long := range 9 {
			want := n
			if long < 8 {
				want = n & (1<<(8*long) - 1)
			}
			for _, ahead := range []string{"", "x", "\xff\xff\xff"} {
				s := ahead + raw.Put(n, long) + "\xff"
				if got, err := raw.Get(s, len(ahead), long); got != want || err != api.OK {
					t.Errorf("%#x in %d bytes at %d: %#x, %d", n, long, len(ahead), got, err)
				}
			}
		}
	}
}
