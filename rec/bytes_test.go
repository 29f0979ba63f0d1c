package rec_test

import (
	"encoding/binary"
	"math"
	"strings"
	"testing"
	"unsafe"

	"girder/api"
	"girder/rec"
)

// lay is numbers in as many bytes as their types have, the lowest first, and texts with their length ahead, behind one another.
func lay(parts ...any) string {
	var b []byte
	for _, p := range parts {
		switch v := p.(type) {
		case uint8:
			b = append(b, v)
		case uint16:
			b = binary.LittleEndian.AppendUint16(b, v)
		case uint32:
			b = binary.LittleEndian.AppendUint32(b, v)
		case uint64:
			b = binary.LittleEndian.AppendUint64(b, v)
		case string:
			b = binary.LittleEndian.AppendUint16(b, uint16(len(v)))
			b = append(b, v...)
		}
	}
	return string(b)
}

type (
	u8  = uint8
	u16 = uint16
	u32 = uint32
	u64 = uint64
)

// laid is records, and their bytes laid by hand.
func laid() []struct {
	r api.Rec
	s string
} {
	key := api.Entry{Key: "\x00key", RID: api.RID{Page: 0x44332211, Slot: 0x6655}}
	put := api.Op{Kind: api.OpPut, At: 0x0102, S: "abc", Old: "xyz"}
	return []struct {
		r api.Rec
		s string
	}{
		{api.Rec{Kind: 4, Tx: 3, Prev: 9}, "\x04\x03\x00\x00\x00\x09\x00\x00\x00\x00\x00\x00\x00"},
		{api.Rec{Kind: 5, Tx: 0x04030201, Prev: 0x0807060504030201}, "\x05\x01\x02\x03\x04\x01\x02\x03\x04\x05\x06\x07\x08"},
		{api.Rec{Kind: 6, Tx: math.MaxInt32, Prev: math.MaxUint64}, "\x06\xff\xff\xff\x7f\xff\xff\xff\xff\xff\xff\xff\xff"},
		{api.Rec{Kind: 7}, "\x07\x00\x00\x00\x00\x00\x00\x00\x00\x00\x00\x00\x00"},
		{api.Rec{Kind: 3, Tx: 3, Prev: 9, Next: 0x0807060504030201}, lay(u8(3), u32(3), u64(9), u64(0x0807060504030201))},
		{api.Rec{Kind: 1, Tx: 3, Prev: 9, Page: 0x04030201, Op: put}, lay(u8(1), u32(3), u64(9), u32(0x04030201), u8(6), u16(0x0102), "abc", "xyz", u8(0))},
		{api.Rec{Kind: 1, Tx: 3, Prev: 9, Page: 5, Op: api.Op{Kind: 2, At: 63, S: pattern(258)}, Undo: 1}, lay(u8(1), u32(3), u64(9), u32(5), u8(2), u16(63), pattern(258), "", u8(1))},
		{api.Rec{Kind: 1, Tx: 3, Prev: 9, Page: 5, Op: api.Op{Kind: 3, At: 1, Old: "o"}, Undo: 2, Index: 0x0201, Entry: key, Live: true},
			lay(u8(1), u32(3), u64(9), u32(5), u8(3), u16(1), "", "o", u8(2), u16(0x0201), "\x00key", u32(0x44332211), u16(0x6655), u8(1))},
		{api.Rec{Kind: 1, Page: 5, Op: api.Op{Kind: 1}, Undo: 2}, lay(u8(1), u32(0), u64(0), u32(5), u8(1), u16(0), "", "", u8(2), u16(0), "", u32(0), u16(0), u8(0))},
		{api.Rec{Kind: 2, Tx: 3, Prev: 9, Next: 8, Page: 5, Op: put}, lay(u8(2), u32(3), u64(9), u64(8), u32(5), u8(6), u16(0x0102), "abc", "xyz", u8(0))},
		{api.Rec{Kind: 8, Tx: 3, Prev: 9}, lay(u8(8), u32(3), u64(9), u16(0), u16(0))},
		{api.Rec{Kind: 8, Tx: 3, Txs: []api.TxState{{Tx: 0x04030201, State: 3, Last: 7, Next: 6}, {Tx: 2, State: 1, Last: 0x0807060504030201}}, Dirty: []api.Dirty{{Page: 0x04030201, LSN: 0x0807060504030201}}},
			lay(u8(8), u32(3), u64(0), u16(2), u32(0x04030201), u8(3), u64(7), u64(6), u32(2), u8(1), u64(0x0807060504030201), u64(0), u16(1), u32(0x04030201), u64(0x0807060504030201))},
		{api.Rec{Kind: 8, Dirty: make([]api.Dirty, 256)}, lay(u8(8), u32(0), u64(0), u16(0), u16(256)) + strings.Repeat("\x00", 3072)},
	}
}

// 4.1: the bytes, part by part; and what they are the bytes of.
func TestBytes(t *testing.T) {
	for i, c := range laid() {
		if s, e := rec.Encode(c.r); s != c.s || e != api.OK {
			t.Errorf("%d: %d\n%x, not\n%x", i, e, s, c.s)
		}
		if r, e := rec.Decode(c.s); !equal(r, c.r) || e != api.OK {
			t.Errorf("%d: %d\n%+v, not\n%+v", i, e, r, c.r)
		}
	}
}

// refused tells whether Decode answers ErrRec, and nothing beside it.
func refused(s string) bool {
	r, e := rec.Decode(s)
	return e == api.ErrRec && zero(r)
}

// 4.2: Decode of Encode is the record; and bytes of one record are its bytes alone.
func TestDecodeOfEncode(t *testing.T) {
	told := map[string]int{}
	for i, r := range good() {
		s, e := rec.Encode(r)
		if e != api.OK {
			t.Fatalf("%d: Encode: %d", i, e)
		}
		q, e := rec.Decode(s)
		if e != api.OK || !equal(q, r) || !rec.Same(q, r) || rec.Check(q) != api.OK {
			t.Errorf("%d: %d\n%+v, not\n%+v", i, e, q, r)
		}
		if j, ok := told[s]; ok {
			t.Errorf("%d has the bytes of %d", i, j)
		}
		told[s] = i
	}
}

// 4.1: bytes that are cut short, at each place, the empty text too.
func TestDecodeCut(t *testing.T) {
	if !refused("") {
		t.Error("the empty text")
	}
	for i, r := range good() {
		s, _ := rec.Encode(r)
		for n := range len(s) {
			if !refused(s[:n]) {
				t.Fatalf("%d: the first %d of %d bytes", i, n, len(s))
			}
		}
	}
}

// 4.1: something behind them, or ahead.
func TestDecodeMore(t *testing.T) {
	for i, r := range good() {
		s, _ := rec.Encode(r)
		for _, more := range []string{"\x00", "\x01", "\xff", "x", "\x00\x00", strings.Repeat("\x00", 21), s, pattern(1000)} {
			if !refused(s + more) {
				t.Errorf("%d: with %.9q behind", i, more)
			}
		}
		if !refused("\x00" + s) {
			t.Errorf("%d: with a zero ahead", i)
		}
	}
}

// 4.1: with another value at each place they are the bytes of another record, or of none; and each part's own values are taken.
func TestDecodeAnotherByte(t *testing.T) {
	taken, not := 0, 0
	for i, r := range sorts() {
		s, _ := rec.Encode(r)
		for at := range len(s) {
			for v := range 256 {
				if byte(v) == s[at] {
					continue
				}
				other := s[:at] + string([]byte{byte(v)}) + s[at+1:]
				q, e := rec.Decode(other)
				if e != api.OK {
					not++
					if e != api.ErrRec || !zero(q) {
						t.Fatalf("%d, %d at %d: %+v, %d", i, v, at, q, e)
					}
					continue
				}
				taken++
				again, e := rec.Encode(q)
				if rec.Same(q, r) || again != other || e != api.OK {
					t.Fatalf("%d, %d at %d: %+v, laid again %d:\n%x, not\n%x", i, v, at, q, e, again, other)
				}
			}
		}
	}
	if taken < 1000 || not < 1000 {
		t.Error("too few of a sort:", taken, not)
	}
}

// values tells which values of the byte at a place of s make a record.
func values(s string, at int) []int {
	var l []int
	for v := range 256 {
		if _, e := rec.Decode(s[:at] + string([]byte{byte(v)}) + s[at+1:]); e == api.OK {
			l = append(l, v)
		}
	}
	return l
}

// upTo tells whether a list is the numbers from low to high.
func upTo(l []int, low, high int) bool {
	for i, v := range l {
		if v != low+i {
			return false
		}
	}
	return len(l) == high-low+1
}

// 4.1: which values of each byte make a record, where the chapter says it.
func TestDecodeValues(t *testing.T) {
	key, _ := rec.Encode(update(api.UndoKey))
	page, _ := rec.Encode(update(api.UndoPage))
	back, _ := rec.Encode(clr())
	list, _ := rec.Encode(check(2, 3))
	bare, _ := rec.Encode(plain(api.RecCommit))
	empty, _ := rec.Encode(check(0, 0))
	for _, c := range []struct {
		name          string
		s             string
		at, low, high int
	}{
		{"Kind of a bare one", bare, 0, 4, 7},
		{"Kind of an update", page, 0, 1, 1},
		{"Kind of a CLR", back, 0, 2, 2},
		{"Kind of a checkpoint", list, 0, 8, 8},
		{"Tx's lowest", bare, 1, 0, 255},
		{"Tx's highest", bare, 4, 0, 127},
		{"Prev's lowest", bare, 5, 0, 255},
		{"Prev's highest", bare, 12, 0, 255},
		{"Page's lowest", page, 13, 1, 255},
		{"Page's highest", page, 16, 0, 255},
		{"Op's Kind", page, 17, 4, 4},
		{"Op's At", page, 18, 0, 63},
		{"Op's At, the higher", page, 19, 0, 0},
		{"the length of S", page, 20, 3, 3},
		{"the length of Old", page, 25, 1, 1},
		{"a byte of Old", page, 27, 0, 255},
		{"Undo of an update", page, 28, 0, 1},
		{"Undo of a key", key, 28, 2, 2},
		{"Next of a CLR", back, 20, 0, 255},
		{"Undo of a CLR", back, len(back) - 1, 0, 0},
		{"Index", key, 29, 0, 255},
		{"Index, the higher", key, 30, 0, 255},
		{"the length of the key", key, 31, 3, 3},
		{"a byte of the key", key, 33, 0, 255},
		{"the RID's Page", key, 36, 0, 255},
		{"the RID's Slot, the higher", key, 41, 0, 255},
		{"Live", key, 42, 0, 1},
		{"how many Txs", list, 13, 2, 2},
		{"how many Txs, of none", empty, 13, 0, 0},
		{"how many Txs, the higher", list, 14, 0, 0},
		{"Txs' Tx, the highest", list, 18, 0, 127},
		{"Txs' State", list, 19, 1, 3},
		{"Txs' Last", list, 27, 0, 255},
		{"Txs' Next", list, 35, 0, 255},
		{"how many Dirty", list, 57, 3, 3},
		{"how many Dirty, of none", empty, 15, 0, 0},
		{"Dirty's Page", list, 59, 0, 255},
		{"Dirty's LSN", list, 70, 0, 255},
	} {
		if l := values(c.s, c.at); !upTo(l, c.low, c.high) {
			t.Errorf("%s: %v, not %d to %d", c.name, l, c.low, c.high)
		}
	}
}

// 4.1: bytes that are well laid, of records that may not be, each beside its neighbour that may.
func TestDecodeForm(t *testing.T) {
	head := func(kind u8, tx u32) string { return lay(kind, tx, u64(9)) }
	set := func(page u32, s, old string, undo u8) string { return lay(page, u8(4), u16(2), s, old, undo) }
	key := func(s string, live u8) string { return lay(u16(65535), s, u32(math.MaxUint32), u16(65535), live) }
	state := func(n int, state u8) string { return strings.Repeat(lay(u32(1), state, u64(2), u64(3)), n) }
	pages := func(n int) string { return strings.Repeat(lay(u32(1), u64(2)), n) }
	for i, c := range []struct {
		s  string
		ok bool
	}{
		{head(0, 3), false},
		{head(9, 3), false},
		{head(255, 3), false},
		{head(4, math.MaxInt32), true},
		{head(4, 1<<31), false},
		{head(4, math.MaxUint32), false},
		{head(3, 3) + lay(u64(6)), true},
		{head(3, 3), false},
		{head(4, 3) + lay(u64(6)), false},
		{head(1, 3) + set(1, "a", "b", 0), true},
		{head(1, 3) + set(1, "a", "b", 1), true},
		{head(1, 3) + set(1, "a", "b", 2), false},
		{head(1, 3) + set(1, "a", "b", 3), false},
		{head(1, 3) + set(1, "a", "b", 255), false},
		{head(1, 3) + set(0, "a", "b", 0), false},
		{head(1, 3) + set(1, pattern(512), pattern(512), 0), true},
		{head(1, 3) + set(1, pattern(513), "", 0), false},
		{head(1, 3) + set(1, "", pattern(513), 0), false},
		{head(1, 3) + set(1, pattern(65535), pattern(65535), 0), false},
		{head(1, 3) + lay(u64(6)) + set(1, "a", "b", 0), false},
		{head(1, 3) + set(1, "a", "b", 2) + key(pattern(64), 0), true},
		{head(1, 3) + set(1, "a", "b", 2) + key("", 1), true},
		{head(1, 3) + set(1, "a", "b", 2) + key("", 2), false},
		{head(1, 3) + set(1, "a", "b", 2) + key("", 255), false},
		{head(1, 3) + set(1, "a", "b", 2) + key(pattern(65), 0), false},
		{head(1, 3) + set(1, "a", "b", 2) + key(pattern(65535), 0), false},
		{head(1, 3) + set(1, "a", "b", 1) + key("", 0), false},
		{head(1, 3) + set(1, "a", "b", 0) + key("", 0), false},
		{head(2, 3) + lay(u64(6)) + set(1, "a", "b", 0), true},
		{head(2, 3) + lay(u64(6)) + set(1, "a", "b", 1), false},
		{head(2, 3) + lay(u64(6)) + set(1, "a", "b", 2), false},
		{head(2, 3) + lay(u64(6)) + set(1, "a", "b", 2) + key("", 0), false},
		{head(2, 3) + lay(u64(6)) + set(0, "a", "b", 0), false},
		{head(2, 3) + set(1, "a", "b", 0), false},
		{head(8, 3), false},
		{head(8, 3) + lay(u16(0)), false},
		{head(8, 3) + lay(u16(0), u16(0)), true},
		{head(8, 3) + lay(u16(64)) + state(64, 1) + lay(u16(256)) + pages(256), true},
		{head(8, 3) + lay(u16(65)) + state(65, 1) + lay(u16(0)), false},
		{head(8, 3) + lay(u16(0), u16(257)) + pages(257), false},
		{head(8, 3) + lay(u16(65535)) + state(65535, 1) + lay(u16(0)), false},
		{head(8, 3) + lay(u16(0), u16(65535)) + pages(65535), false},
		{head(8, 3) + lay(u16(1)) + state(1, 0) + lay(u16(0)), false},
		{head(8, 3) + lay(u16(1)) + state(1, 3) + lay(u16(0)), true},
		{head(8, 3) + lay(u16(1)) + state(1, 4) + lay(u16(0)), false},
		{head(8, 3) + lay(u16(1), u32(1<<31), u8(1), u64(2), u64(3), u16(0)), false},
		{head(8, 3) + lay(u16(1), u32(1<<31-1), u8(1), u64(2), u64(3), u16(0)), true},
		{head(8, 3) + lay(u16(0), u16(1), u32(0), u64(0)), true},
		{strings.Repeat("\x00", 13), false},
		{strings.Repeat("\xff", 13), false},
		{pattern(1 << 20), false},
	} {
		if !c.ok {
			if !refused(c.s) {
				t.Errorf("%d: taken: %.60x", i, c.s)
			}
			continue
		}
		r, e := rec.Decode(c.s)
		if again, f := rec.Encode(r); e != api.OK || f != api.OK || again != c.s {
			t.Errorf("%d: %d, %d: %.60x", i, e, f, c.s)
		}
	}
}

// dice is numbers that are the same in each run.
type dice struct{ n uint64 }

// roll is a number from 0 to below n.
func (d *dice) roll(n int) int {
	d.n = d.n*6364136223846793005 + 1442695040888963407
	return int((d.n >> 33) % uint64(n))
}

// scatter is bytes of one record with some taken from others, or put in, or taken out.
func scatter(d *dice, from []string) string {
	b := []byte(from[d.roll(len(from))])
	for range d.roll(4) {
		at := d.roll(len(b))
		switch d.roll(4) {
		case 0:
			b[at] = byte(d.roll(256))
		case 1:
			b[at] = byte(d.roll(9))
		case 2:
			b = append(b[:at], b[at+1:]...)
		case 3:
			other := from[d.roll(len(from))]
			b = append(b[:at:at], other[min(at, len(other)):]...)
		}
		if len(b) == 0 {
			return ""
		}
	}
	return string(b)
}

// 4.1: whatever the bytes are, Decode is a record just when they are what Encode of it is.
func TestDecodeIsOfEncode(t *testing.T) {
	var from []string
	for _, r := range sorts() {
		s, _ := rec.Encode(r)
		from = append(from, s)
	}
	records, wrong := 0, 0
	d := &dice{1}
	for range 100000 {
		s := scatter(d, from)
		r, e := rec.Decode(s)
		if e != api.OK {
			wrong++
			if e != api.ErrRec || !zero(r) {
				t.Fatalf("%x: %+v, %d", s, r, e)
			}
			continue
		}
		records++
		if again, e := rec.Encode(r); again != s || e != api.OK || rec.Check(r) != api.OK {
			t.Fatalf("%x: other bytes when laid again: %x, %d", s, again, e)
		}
	}
	if records < 1000 || wrong < 1000 {
		t.Error("too few of a sort:", records, wrong)
	}
}

// R4: two answers share nothing, nor do the two lists of one, spare room too.
func TestDecodeApart(t *testing.T) {
	s, _ := rec.Encode(check(2, 3))
	r, _ := rec.Decode(s)
	q, _ := rec.Decode(s)
	r.Txs[0].Tx, r.Dirty[0].LSN = 99, 99
	_ = append(r.Txs, api.TxState{Tx: 98}, api.TxState{Tx: 97})
	_ = append(r.Dirty, api.Dirty{Page: 98}, api.Dirty{Page: 97})
	if !equal(q, check(2, 3)) {
		t.Errorf("%+v", q)
	}
	if again, e := rec.Decode(s); e != api.OK || !equal(again, check(2, 3)) {
		t.Errorf("%+v, %d", again, e)
	}
	r.Txs[0].Tx, r.Dirty[0].LSN = 0, 3000
	if !equal(r, check(2, 3)) {
		t.Errorf("%+v", r)
	}
}

// inside tells whether a text lies in the memory of another one.
func inside(s, all string) bool {
	at, from := uintptr(unsafe.Pointer(unsafe.StringData(s))), uintptr(unsafe.Pointer(unsafe.StringData(all)))
	return at >= from && at < from+uintptr(len(all))
}

// R4: the texts of an answer lie nowhere in what was handed in, nor in one another.
func TestTextsApart(t *testing.T) {
	r := update(api.UndoKey)
	r.Op.S, r.Op.Old, r.Entry.Key = pattern(100), pattern(101), pattern(64)
	s, e := rec.Encode(r)
	if e != api.OK || inside(s, r.Op.S) || inside(s, r.Op.Old) || inside(s, r.Entry.Key) {
		t.Error("Encode:", e)
	}
	q, e := rec.Decode(s)
	if e != api.OK || inside(q.Op.S, s) || inside(q.Op.Old, s) || inside(q.Entry.Key, s) {
		t.Error("Decode:", e)
	}
	p, _ := rec.Decode(s)
	if inside(q.Op.S, p.Op.S) || inside(q.Op.Old, p.Op.Old) || inside(q.Entry.Key, p.Entry.Key) || inside(q.Op.S, q.Op.Old) {
		t.Error("Decode twice")
	}
}
