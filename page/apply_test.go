package page_test

import (
	"math"
	"slices"
	"strings"
	"testing"

	"girder/api"
	"girder/page"
)

// deed is a change of a page, and what it must come to; the LSN is 77.
type deed struct {
	name string
	p    api.Sheet
	op   api.Op
	want api.Sheet
	err  api.Errno
}

// sheet is a page of the number 3, with the LSN 9, the kind 2 and the head h.
func sheet(slots ...string) api.Sheet {
	return api.Sheet{Number: 3, LSN: 9, Kind: 2, Head: "h", Slots: slots}
}

// behind is such a page behind a change.
func behind(slots ...string) api.Sheet {
	p := sheet(slots...)
	p.LSN = 77
	return p
}

// wantDeeds does each change, and asks Fits, too; the page that is handed in must stay.
func wantDeeds(t *testing.T, deeds []deed) {
	t.Helper()
	for _, d := range deeds {
		was := d.p
		was.Slots = slices.Clone(d.p.Slots)
		q, e := page.Apply(d.p, d.op, 77)
		if e != d.err || !equal(q, d.want) {
			t.Errorf("%s: %+v, %d, not %+v, %d", d.name, q, e, d.want, d.err)
		}
		if e != api.OK && !zero(q) {
			t.Errorf("%s: a page beside the error %d", d.name, e)
		}
		if fits := page.Fits(d.p, d.op); fits != (d.err == api.OK) {
			t.Errorf("%s: Fits %t", d.name, fits)
		}
		if !equal(d.p, was) {
			t.Errorf("%s: the page that was handed in is now %+v", d.name, d.p)
		}
	}
}

// 3.3: a change that may not be is ErrOp, whatever the page, ahead of all other errors.
func TestApplyNoChange(t *testing.T) {
	full := sheet(pattern(480))
	crowd := sheet(many(64, "")...)
	for _, p := range []api.Sheet{{}, page.Blank(3), sheet("a", "b"), full, crowd, {Kind: -1, Slots: many(65, "")}} {
		for _, op := range []api.Op{
			{},
			{Kind: -1}, {Kind: 8}, {Kind: 258, S: "a"},
			{Kind: api.OpFormat, At: 256}, {Kind: api.OpFormat, At: -1},
			{Kind: api.OpFormat, S: pattern(33)}, {Kind: api.OpFormat, Old: "a"},
			{Kind: api.OpInsert, At: 64}, {Kind: api.OpInsert, At: -1},
			{Kind: api.OpInsert, S: pattern(513)}, {Kind: api.OpInsert, Old: "a"},
			{Kind: api.OpRemove, At: 64}, {Kind: api.OpRemove, At: -1}, {Kind: api.OpRemove, At: 70, Old: "a"},
			{Kind: api.OpRemove, S: "a", Old: "a"}, {Kind: api.OpRemove, Old: pattern(513)},
			{Kind: api.OpSet, At: 64}, {Kind: api.OpSet, At: -1}, {Kind: api.OpSet, S: pattern(513)},
			{Kind: api.OpHead, At: 1, Old: "h"}, {Kind: api.OpHead, S: pattern(33), Old: "h"},
			{Kind: api.OpPut, At: 512, S: "a", Old: "b"}, {Kind: api.OpPut}, {Kind: api.OpPut, S: "ab", Old: "a"},
			{Kind: api.OpPut, At: math.MaxInt, S: "a", Old: "b"},
			{Kind: api.OpTurn}, {Kind: api.OpTurn, S: "\x01"}, {Kind: api.OpTurn, At: 1, S: "\x01", Old: "\x02h"},
		} {
			wantDeeds(t, []deed{{"no change", p, op, api.Sheet{}, api.ErrOp}})
		}
	}
}

// 3.3: a page is begun: number and LSN alone are not the change's.
func TestApplyFormat(t *testing.T) {
	begun := func(kind int, head string) api.Sheet { return api.Sheet{Number: 3, LSN: 77, Kind: kind, Head: head} }
	over := sheet(many(70, pattern(600))...)
	over.Kind, over.Head = -5, pattern(90)
	wantDeeds(t, []deed{
		{"blank", page.Blank(3), api.Op{Kind: api.OpFormat, At: 2}, begun(2, ""), api.OK},
		{"with a head", page.Blank(3), api.Op{Kind: api.OpFormat, At: 2, S: "ab"}, begun(2, "ab"), api.OK},
		{"the greatest", sheet("a", "b"), api.Op{Kind: api.OpFormat, At: 255, S: pattern(32)}, begun(255, pattern(32)), api.OK},
		{"the least", sheet("a", "b"), api.Op{Kind: api.OpFormat}, begun(0, ""), api.OK},
		{"a full one", sheet(pattern(482)), api.Op{Kind: api.OpFormat, At: 1, S: pattern(32)}, begun(1, pattern(32)), api.OK},
		{"no page at all", over, api.Op{Kind: api.OpFormat, At: 1, S: "x"}, begun(1, "x"), api.OK},
		{"zero", api.Sheet{}, api.Op{Kind: api.OpFormat, At: 1}, api.Sheet{LSN: 77, Kind: 1}, api.OK},
	})
}

// 3.3: a slot is put in: at the front, between, at the end, and one past that.
func TestApplyInsert(t *testing.T) {
	in := func(at int, s string) api.Op { return api.Op{Kind: api.OpInsert, At: at, S: s} }
	crowd := many(63, "")
	wantDeeds(t, []deed{
		{"into none", sheet(), in(0, "a"), behind("a"), api.OK},
		{"past none", sheet(), in(1, "a"), api.Sheet{}, api.ErrArg},
		{"front", sheet("a", "b"), in(0, "x"), behind("x", "a", "b"), api.OK},
		{"between", sheet("a", "b"), in(1, "x"), behind("a", "x", "b"), api.OK},
		{"end", sheet("a", "b"), in(2, "x"), behind("a", "b", "x"), api.OK},
		{"past", sheet("a", "b"), in(3, "x"), api.Sheet{}, api.ErrArg},
		{"far past", sheet("a", "b"), in(63, "x"), api.Sheet{}, api.ErrArg},
		{"empty", sheet("a"), in(1, ""), behind("a", ""), api.OK},
		{"zero page", api.Sheet{}, in(0, "a"), api.Sheet{LSN: 77, Slots: []string{"a"}}, api.OK},

		{"the last one", sheet(crowd...), in(63, "x"), behind(append(many(63, ""), "x")...), api.OK},
		{"the last one, in front", sheet(crowd...), in(0, "x"), behind(append([]string{"x"}, crowd...)...), api.OK},
		{"one too many", sheet(many(64, "")...), in(63, ""), api.Sheet{}, api.ErrMany},
		{"one too many, in front", sheet(many(64, "")...), in(0, ""), api.Sheet{}, api.ErrMany},
		{"far too many", sheet(many(80, "")...), in(0, ""), api.Sheet{}, api.ErrMany},
		{"too many ahead of full", sheet(many(64, "abcde")...), in(0, pattern(512)), api.Sheet{}, api.ErrMany},

		{"just fits", sheet(), in(0, pattern(482)), behind(pattern(482)), api.OK},
		{"one byte too many", sheet(), in(0, pattern(483)), api.Sheet{}, api.ErrFull},
		{"just fits beside", sheet(pattern(400)), in(1, pattern(80)), behind(pattern(400), pattern(80)), api.OK},
		{"too many beside", sheet(pattern(400)), in(1, pattern(81)), api.Sheet{}, api.ErrFull},
		{"empty, just fits", sheet(pattern(480)), in(0, ""), behind("", pattern(480)), api.OK},
		{"empty, too many", sheet(pattern(481)), in(0, ""), api.Sheet{}, api.ErrFull},
		{"512 bytes", sheet(), in(0, pattern(512)), api.Sheet{}, api.ErrFull},
		{"past ahead of full", sheet(), in(1, pattern(512)), api.Sheet{}, api.ErrArg},
		{"into what does not fit", sheet(pattern(500)), in(0, ""), api.Sheet{}, api.ErrFull},
	})
}

// 3.3: a slot is taken out, if it is there, and is what it is said to be.
func TestApplyRemove(t *testing.T) {
	out := func(at int, old string) api.Op { return api.Op{Kind: api.OpRemove, At: at, Old: old} }
	wantDeeds(t, []deed{
		{"front", sheet("a", "b", "c"), out(0, "a"), behind("b", "c"), api.OK},
		{"between", sheet("a", "b", "c"), out(1, "b"), behind("a", "c"), api.OK},
		{"last", sheet("a", "b", "c"), out(2, "c"), behind("a", "b"), api.OK},
		{"past", sheet("a", "b", "c"), out(3, ""), api.Sheet{}, api.ErrArg},
		{"far past", sheet("a", "b", "c"), out(63, "a"), api.Sheet{}, api.ErrArg},
		{"of none", sheet(), out(0, ""), api.Sheet{}, api.ErrArg},
		{"the only one", sheet("a"), out(0, "a"), behind(), api.OK},
		{"an empty one", sheet("", "a"), out(0, ""), behind("a"), api.OK},
		{"the last place", sheet(many(64, "x")...), out(63, "x"), behind(many(63, "x")...), api.OK},
		{"another", sheet("a", "b"), out(0, "b"), api.Sheet{}, api.ErrOld},
		{"a longer one", sheet("a", "b"), out(0, "ab"), api.Sheet{}, api.ErrOld},
		{"a shorter one", sheet("ab"), out(0, "a"), api.Sheet{}, api.ErrOld},
		{"none said", sheet("a"), out(0, ""), api.Sheet{}, api.ErrOld},
		{"of a full one", sheet(pattern(482)), out(0, pattern(482)), behind(), api.OK},
		{"of what does not fit", sheet(pattern(482), pattern(482), "a"), out(2, "a"), behind(pattern(482), pattern(482)), api.OK},
		{"zero page", api.Sheet{}, out(0, ""), api.Sheet{}, api.ErrArg},
	})
}

// 3.3: a slot is another: ErrArg, then ErrOld, then ErrFull.
func TestApplySet(t *testing.T) {
	set := func(at int, s, old string) api.Op { return api.Op{Kind: api.OpSet, At: at, S: s, Old: old} }
	wantDeeds(t, []deed{
		{"front", sheet("a", "b", "c"), set(0, "xy", "a"), behind("xy", "b", "c"), api.OK},
		{"between", sheet("a", "b", "c"), set(1, "", "b"), behind("a", "", "c"), api.OK},
		{"last", sheet("a", "b", "c"), set(2, "c", "c"), behind("a", "b", "c"), api.OK},
		{"past", sheet("a", "b", "c"), set(3, "x", ""), api.Sheet{}, api.ErrArg},
		{"of none", sheet(), set(0, "x", ""), api.Sheet{}, api.ErrArg},
		{"another", sheet("a", "b"), set(0, "x", "b"), api.Sheet{}, api.ErrOld},
		{"none said", sheet("a", "b"), set(0, "x", ""), api.Sheet{}, api.ErrOld},
		{"a longer one said", sheet("a"), set(0, "x", "ab"), api.Sheet{}, api.ErrOld},
		{"an empty one", sheet(""), set(0, "x", ""), behind("x"), api.OK},
		{"the last place", sheet(many(64, "x")...), set(63, "y", "x"), behind(append(many(63, "x"), "y")...), api.OK},

		{"just fits", sheet("a", pattern(400)), set(0, pattern(80), "a"), behind(pattern(80), pattern(400)), api.OK},
		{"one byte too many", sheet("a", pattern(400)), set(0, pattern(81), "a"), api.Sheet{}, api.ErrFull},
		{"full, as long", sheet(pattern(482)), set(0, strings.Repeat("x", 482), pattern(482)), behind(strings.Repeat("x", 482)), api.OK},
		{"full, a byte more", sheet(pattern(482)), set(0, pattern(483), pattern(482)), api.Sheet{}, api.ErrFull},
		{"full, a byte less", sheet(pattern(482)), set(0, pattern(481), pattern(482)), behind(pattern(481)), api.OK},
		{"old ahead of full", sheet(pattern(482)), set(0, pattern(512), "x"), api.Sheet{}, api.ErrOld},
		{"past ahead of all", sheet(pattern(482)), set(1, pattern(512), "x"), api.Sheet{}, api.ErrArg},

		{"does not fit, and will", sheet(pattern(490), "ab"), set(0, pattern(478), pattern(490)), behind(pattern(478), "ab"), api.OK},
		{"does not fit, and won't", sheet(pattern(490), "ab"), set(0, pattern(479), pattern(490)), api.Sheet{}, api.ErrFull},
		{"does not fit, as long", sheet(pattern(490)), set(0, pattern(490), pattern(490)), api.Sheet{}, api.ErrFull},
	})
}

// 3.3: the head is another: ErrOld, then ErrFull.
func TestApplyHead(t *testing.T) {
	set := func(s, old string) api.Op { return api.Op{Kind: api.OpHead, S: s, Old: old} }
	headed := func(lsn api.LSN, head string, slots ...string) api.Sheet {
		return api.Sheet{Number: 3, LSN: lsn, Kind: 2, Head: head, Slots: slots}
	}
	wantDeeds(t, []deed{
		{"another", sheet("a"), set("xyz", "h"), headed(77, "xyz", "a"), api.OK},
		{"none", sheet("a"), set("", "h"), headed(77, "", "a"), api.OK},
		{"of none", headed(9, "", "a"), set("x", ""), headed(77, "x", "a"), api.OK},
		{"of a blank one", page.Blank(3), set("x", ""), api.Sheet{Number: 3, LSN: 77, Head: "x"}, api.OK},
		{"the longest", sheet(), set(pattern(32), "h"), headed(77, pattern(32)), api.OK},
		{"of the longest", headed(9, pattern(32)), set("", pattern(32)), headed(77, ""), api.OK},
		{"something else stands there", sheet(), set("x", "g"), api.Sheet{}, api.ErrOld},
		{"nothing said", sheet(), set("x", ""), api.Sheet{}, api.ErrOld},
		{"nothing stands there", headed(9, ""), set("x", "h"), api.Sheet{}, api.ErrOld},
		{"more stands there", headed(9, "hh"), set("x", "h"), api.Sheet{}, api.ErrOld},
		{"too much stands there", headed(9, pattern(33)), set("x", pattern(32)), api.Sheet{}, api.ErrOld},
		{"just fits", sheet(pattern(480)), set("xyz", "h"), headed(77, "xyz", pattern(480)), api.OK},
		{"one byte too many", sheet(pattern(480)), set("wxyz", "h"), api.Sheet{}, api.ErrFull},
		{"full, as long", sheet(pattern(482)), set("g", "h"), headed(77, "g", pattern(482)), api.OK},
		{"old ahead of full", sheet(pattern(482)), set("xyz", "g"), api.Sheet{}, api.ErrOld},
		{"does not fit, and will", sheet(pattern(483)), set("", "h"), headed(77, "", pattern(483)), api.OK},
		{"does not fit, and won't", sheet(pattern(484)), set("", "h"), api.Sheet{}, api.ErrFull},
	})
}

// 3.3: bytes of the slot 0 are others.
func TestApplyPut(t *testing.T) {
	put := func(at int, s, old string) api.Op { return api.Op{Kind: api.OpPut, At: at, S: s, Old: old} }
	long := pattern(482)
	ones := strings.Repeat("\xff", 482)
	huge := pattern(1100)
	wantDeeds(t, []deed{
		{"front", sheet("abcd", "ab"), put(0, "xy", "ab"), behind("xycd", "ab"), api.OK},
		{"between", sheet("abcd", "ab"), put(1, "xy", "bc"), behind("axyd", "ab"), api.OK},
		{"end", sheet("abcd", "ab"), put(2, "xy", "cd"), behind("abxy", "ab"), api.OK},
		{"all", sheet("abcd"), put(0, "wxyz", "abcd"), behind("wxyz"), api.OK},
		{"the same", sheet("abcd"), put(1, "b", "b"), behind("abcd"), api.OK},
		{"over the end", sheet("abcd", "efgh"), put(3, "xy", "de"), api.Sheet{}, api.ErrArg},
		{"one past", sheet("abcd"), put(4, "x", "a"), api.Sheet{}, api.ErrArg},
		{"all and one", sheet("abcd"), put(0, "vwxyz", "abcde"), api.Sheet{}, api.ErrArg},
		{"no slot", sheet(), put(0, "x", "a"), api.Sheet{}, api.ErrArg},
		{"zero page", api.Sheet{}, put(0, "x", "a"), api.Sheet{}, api.ErrArg},
		{"an empty slot", sheet("", "abc"), put(0, "x", "a"), api.Sheet{}, api.ErrArg},
		{"something else", sheet("abcd"), put(1, "x", "a"), api.Sheet{}, api.ErrOld},
		{"something else at its end", sheet("abcd"), put(1, "xy", "bd"), api.Sheet{}, api.ErrOld},
		{"past ahead of old", sheet("abcd"), put(3, "xy", "zz"), api.Sheet{}, api.ErrArg},
		{"the last byte", sheet(long), put(481, "x", long[481:]), behind(long[:481] + "x"), api.OK},
		{"past the last byte", sheet(long), put(482, "x", "x"), api.Sheet{}, api.ErrArg},
		{"all of a full one", sheet(long), put(0, ones, long), behind(ones), api.OK},
		{"511", sheet(long), put(511, "x", "x"), api.Sheet{}, api.ErrArg},
		{"512 bytes", sheet(long), put(0, pattern(512), pattern(512)), api.Sheet{}, api.ErrArg},
		{"of what does not fit", sheet(huge), put(511, ones, huge[511:993]), behind(huge[:511] + ones + huge[993:]), api.OK},
	})
}

// 3.3: a page without slots has another kind and head.
func TestApplyTurn(t *testing.T) {
	turn := func(s, old string) api.Op { return api.Op{Kind: api.OpTurn, S: s, Old: old} }
	turned := func(lsn api.LSN, kind int, head string) api.Sheet {
		return api.Sheet{Number: 3, LSN: lsn, Kind: kind, Head: head}
	}
	wantDeeds(t, []deed{
		{"both", sheet(), turn("\x05xy", "\x02h"), turned(77, 5, "xy"), api.OK},
		{"the kind alone", sheet(), turn("\x05h", "\x02h"), turned(77, 5, "h"), api.OK},
		{"the head alone", sheet(), turn("\x02xy", "\x02h"), turned(77, 2, "xy"), api.OK},
		{"neither", sheet(), turn("\x02h", "\x02h"), turned(77, 2, "h"), api.OK},
		{"without a head", sheet(), turn("\x05", "\x02h"), turned(77, 5, ""), api.OK},
		{"blank", page.Blank(3), turn("\xff"+pattern(32), "\x00"), turned(77, 255, pattern(32)), api.OK},
		{"to blank", turned(9, 255, pattern(32)), turn("\x00", "\xff"+pattern(32)), turned(77, 0, ""), api.OK},
		{"another kind", sheet(), turn("\x05", "\x03h"), api.Sheet{}, api.ErrOld},
		{"another head", sheet(), turn("\x05", "\x02g"), api.Sheet{}, api.ErrOld},
		{"no head", sheet(), turn("\x05", "\x02"), api.Sheet{}, api.ErrOld},
		{"more of a head", sheet(), turn("\x05", "\x02hh"), api.Sheet{}, api.ErrOld},
		{"a slot", sheet("a"), turn("\x05", "\x02h"), api.Sheet{}, api.ErrArg},
		{"an empty slot", sheet(""), turn("\x05", "\x02h"), api.Sheet{}, api.ErrArg},
		{"a slot ahead of old", sheet("a"), turn("\x05", "\x03h"), api.Sheet{}, api.ErrArg},
		{"zero page", api.Sheet{}, turn("\x01", "\x00"), api.Sheet{LSN: 77, Kind: 1}, api.OK},
	})
}

// 3.3: the LSN is the one that is handed in, whatever the page's was, 0 and the greatest too.
func TestApplyLSN(t *testing.T) {
	for _, lsn := range []api.LSN{0, 1, 9, math.MaxUint64} {
		for _, op := range []api.Op{
			{Kind: api.OpFormat, At: 1},
			{Kind: api.OpInsert, S: "x"},
			{Kind: api.OpRemove, Old: "a"},
			{Kind: api.OpSet, S: "x", Old: "a"},
			{Kind: api.OpHead, S: "x", Old: "h"},
			{Kind: api.OpPut, S: "x", Old: "a"},
		} {
			if q, e := page.Apply(sheet("a"), op, lsn); q.LSN != lsn || e != api.OK {
				t.Errorf("%+v: LSN %d, %d", op, q.LSN, e)
			}
		}
		if q, e := page.Apply(sheet(), api.Op{Kind: api.OpTurn, S: "\x01", Old: "\x02h"}, lsn); q.LSN != lsn || e != api.OK {
			t.Errorf("turned: LSN %d, %d", q.LSN, e)
		}
	}
}

// Examples, 1.
func TestExample(t *testing.T) {
	p, e := page.Apply(page.Blank(3), api.Op{Kind: api.OpFormat, At: 2}, 1)
	if e != api.OK {
		t.Fatal(e)
	}
	p, e = page.Apply(p, api.Op{Kind: api.OpInsert, S: "a"}, 2)
	if !equal(p, api.Sheet{Number: 3, LSN: 2, Kind: 2, Slots: []string{"a"}}) || e != api.OK {
		t.Error(p, e)
	}
	if q, e := page.Apply(p, api.Op{Kind: api.OpSet, S: "b", Old: "x"}, 3); !zero(q) || e != api.ErrOld {
		t.Error(q, e)
	}
}

// 3.3, R4: pages whose slots share memory, spare room too, stay as they were, and the answer shares none of it.
func TestApplyApart(t *testing.T) {
	for _, op := range []api.Op{
		{Kind: api.OpFormat, At: 1},
		{Kind: api.OpInsert, At: 0, S: "x"},
		{Kind: api.OpInsert, At: 1, S: "x"},
		{Kind: api.OpInsert, At: 2, S: "x"},
		{Kind: api.OpRemove, At: 0, Old: "a"},
		{Kind: api.OpRemove, At: 1, Old: "b"},
		{Kind: api.OpSet, At: 1, S: "x", Old: "b"},
		{Kind: api.OpHead, S: "x", Old: "h"},
		{Kind: api.OpPut, S: "x", Old: "a"},
		{Kind: api.OpInsert, At: 3},
		{Kind: api.OpRemove, At: 1, Old: "z"},
		{Kind: api.OpSet, At: 1, S: pattern(500), Old: "b"},
	} {
		shared := []string{"a", "b", "c", "d", "e", "f"}
		long := sheet(shared...)
		q, e := page.Apply(sheet(shared[:2]...), op, 77)
		if got := strings.Join(long.Slots, ""); got != "abcdef" {
			t.Errorf("%+v: %q", op, got)
		}
		if e != api.OK {
			continue
		}
		q.Slots = q.Slots[:cap(q.Slots)]
		for i := range q.Slots {
			q.Slots[i] = "!"
		}
		if got := strings.Join(long.Slots, ""); got != "abcdef" {
			t.Errorf("%+v: shared with the answer: %q", op, got)
		}
	}
}

// R4, R5: the same again is the same answer, and two answers share nothing.
func TestApplyTwice(t *testing.T) {
	p := sheet("a", "b")
	op := api.Op{Kind: api.OpInsert, At: 1, S: "x"}
	a, _ := page.Apply(p, op, 10)
	b, _ := page.Apply(p, op, 10)
	if !equal(a, b) {
		t.Error(a, b)
	}
	a.Slots[0] = "!"
	_ = append(a.Slots[:1], "?", "?", "?")
	if strings.Join(b.Slots, "") != "axb" {
		t.Error(b)
	}
}
