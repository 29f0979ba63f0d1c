package pool_test

import (
	"encoding/binary"
	"hash/crc32"
	"math"
	"slices"
	"strings"
	"testing"
	"unsafe"

	"girder/api"
	"girder/page"
)

// stand is what may stand at a page's place or at its twin.
type stand struct {
	name  string
	bytes string
	ok    bool // it can be read as the page
	blank bool
	x     api.Sheet // what is read
}

// summed lays the right sum ahead of bytes.
func summed(s string) string {
	sum := crc32.Checksum([]byte(s), crc32.MakeTable(crc32.Castagnoli))
	return string(binary.LittleEndian.AppendUint32(nil, sum)) + s
}

// good is a stand that can be read as the page n, whatever number it says itself.
func good(t *testing.T, name string, n api.Page, x api.Sheet) stand {
	t.Helper()
	s := stand{name: name, bytes: coded(t, x), ok: true, x: x}
	s.x.Number = n
	s.blank = equal(s.x, page.Blank(n))
	return s
}

// stands is all that may stand where the page n is looked for.
func stands(t *testing.T, n api.Page) []stand {
	t.Helper()
	five, nine := coded(t, sheet(n, 5, "five")), coded(t, sheet(n, 9, "nine"))
	other := sheet(n%room+1, 9, "of another page")
	behind := strings.Repeat("\x00", 507) + "x"
	return []stand{
		{name: "zeros", bytes: zeros(), ok: true, blank: true, x: page.Blank(n)},
		good(t, "blank", n, page.Blank(n)),
		good(t, "blank, of number 0", n, page.Blank(0)),
		good(t, "LSN 0", n, sheet(n, 0, "zero")),
		good(t, "LSN 0, and a kind", n, api.Sheet{Number: n, Kind: 1}),
		good(t, "LSN 0, and a head", n, api.Sheet{Number: n, Head: "\x00"}),
		good(t, "LSN 0, and a slot", n, api.Sheet{Number: n, Slots: []string{""}}),
		good(t, "LSN 1, and nothing else", n, api.Sheet{Number: n, LSN: 1}),
		good(t, "LSN 5", n, sheet(n, 5, "five")),
		good(t, "LSN 5, but another one", n, sheet(n, 5, "cinq")),
		good(t, "LSN 5, and nothing else", n, api.Sheet{Number: n, LSN: 5}),
		good(t, "LSN 5, of number 0", n, sheet(0, 5, "none")),
		good(t, "LSN 9", n, sheet(n, 9, "nine")),
		good(t, "LSN 9, and nothing else", n, api.Sheet{Number: n, LSN: 9}),
		good(t, "LSN 9, of number 0", n, sheet(0, 9, "none")),
		good(t, "the greatest LSN", n, sheet(n, math.MaxUint64, "most")),
		{name: "another page", bytes: coded(t, other)},
		{name: "a blank one of another number", bytes: coded(t, page.Blank(n+1))},
		{name: "the number of the twin", bytes: coded(t, sheet(n+api.MaxPages, 9, "twin"))},
		{name: "the greatest number", bytes: coded(t, sheet(math.MaxUint32, 9, "most"))},
		{name: "torn", bytes: nine[:300] + five[300:]},
		{name: "torn early", bytes: nine[:1] + five[1:]},
		{name: "torn over zeros", bytes: nine[:300] + zeros()[300:]},
		{name: "another sum", bytes: "\x00\x00\x00\x00" + nine[4:]},
		{name: "no page", bytes: summed(behind)},
		{name: "other bytes", bytes: strings.Repeat("x", api.PageBytes)},
	}
}

// counts is which of the two is fetched, by the chapter's words.
func counts(place, twin stand) (stand, bool) {
	placed := place.ok && (!twin.ok || twin.blank || twin.x.LSN < place.x.LSN || twin.x.LSN == place.x.LSN && !place.blank)
	if placed {
		return place, true
	}
	return twin, twin.ok
}

// 6.2: a fetch of each thing that may stand at the place, beside each that may stand at the twin.
func TestFetchOfAllStands(t *testing.T) {
	for _, n := range []api.Page{1, 3, room} {
		all := stands(t, n)
		for _, place := range all {
			for _, twin := range all {
				d, l, p := begun(t, 4)
				d.Write(n, place.bytes)
				d.Write(n+api.MaxPages, twin.bytes)
				d.Sync()
				calls := d.Calls()
				if want, ok := counts(place, twin); ok {
					wantPage(t, p, want.x)
					wantPage(t, p, want.x)
					wantNumbers(t, p, n)
					wantCounts(t, p, 1, 0)
				} else {
					wantNone(t, p, n, api.ErrCorrupt)
					wantNumbers(t, p)
					wantCounts(t, p, 0, 0)
				}
				wantDirty(t, p)
				wantOnDisk(t, d, n, place.bytes, twin.bytes)
				if d.Calls() != calls || l.End() != 1 {
					t.Error("something was written")
				}
				if t.Failed() {
					t.Fatalf("page %d: the place: %s; the twin: %s", n, place.name, twin.name)
				}
			}
		}
	}
}

// 6.2: the same, told by hand for the pairs that falls leave, and for those at the edges.
func TestFetchByHand(t *testing.T) {
	all := stands(t, 3)
	named := func(name string) stand {
		i := slices.IndexFunc(all, func(s stand) bool { return s.name == name })
		if i < 0 {
			t.Fatal("nothing is named", name)
		}
		return all[i]
	}
	for _, c := range []struct{ place, twin, want string }{
		{"zeros", "zeros", "blank"},
		{"blank", "zeros", "blank"},
		{"zeros", "torn over zeros", "blank"},
		{"zeros", "LSN 9", "LSN 9"},
		{"zeros", "LSN 0", "LSN 0"},
		{"blank", "LSN 0, and a slot", "LSN 0, and a slot"},
		{"zeros", "LSN 1, and nothing else", "LSN 1, and nothing else"},
		{"torn over zeros", "LSN 9", "LSN 9"},
		{"torn over zeros", "zeros", "blank"},
		{"LSN 5", "LSN 9", "LSN 9"},
		{"LSN 9", "LSN 5", "LSN 9"},
		{"LSN 5", "LSN 5, but another one", "LSN 5"},
		{"LSN 5, but another one", "LSN 5", "LSN 5, but another one"},
		{"LSN 5", "LSN 9, and nothing else", "LSN 9, and nothing else"},
		{"LSN 5", "zeros", "LSN 5"},
		{"LSN 0", "zeros", "LSN 0"},
		{"LSN 0", "LSN 0, and a kind", "LSN 0"},
		{"LSN 0, and a kind", "LSN 0", "LSN 0, and a kind"},
		{"LSN 0", "LSN 1, and nothing else", "LSN 1, and nothing else"},
		{"torn", "LSN 5", "LSN 5"},
		{"LSN 5", "torn", "LSN 5"},
		{"another page", "LSN 5", "LSN 5"},
		{"LSN 5", "another page", "LSN 5"},
		{"LSN 5", "the number of the twin", "LSN 5"},
		{"torn", "torn early", ""},
		{"another page", "the number of the twin", ""},
		{"other bytes", "another sum", ""},
		{"no page", "no page", ""},
	} {
		d, _, p := begun(t, 4)
		d.Write(3, named(c.place).bytes)
		d.Write(3+api.MaxPages, named(c.twin).bytes)
		if c.want == "" {
			wantNone(t, p, 3, api.ErrCorrupt)
		} else {
			wantPage(t, p, named(c.want).x)
		}
		if t.Failed() {
			t.Fatalf("the place: %s; the twin: %s", c.place, c.twin)
		}
	}
}

// 6.2: the twin of n is n + MaxPages, and no other page is looked at.
func TestTwins(t *testing.T) {
	d, l := fresh(t, api.MaxPages)
	for _, n := range []api.Page{1, 2, api.MaxPages - 1, api.MaxPages} {
		for at := api.Page(1); at <= 2*api.MaxPages; at++ {
			d.Write(at, strings.Repeat("x", api.PageBytes))
		}
		d.Write(n+api.MaxPages, coded(t, sheet(n, 9, "twin")))
		d.Sync()
		p := on(t, d, l, 4)
		wantPage(t, p, sheet(n, 9, "twin"))
		wantNone(t, p, n%api.MaxPages+1, api.ErrCorrupt)
		d.Write(n+api.MaxPages, zeros())
		wantPage(t, on(t, d, l, 4), page.Blank(n))
		d.Write(n, coded(t, sheet(n, 1, "place")))
		wantPage(t, on(t, d, l, 4), sheet(n, 1, "place"))
	}
}

// 6.2: what can't be fetched takes no frame, lets nobody leave, and takes no pick.
func TestGetFails(t *testing.T) {
	d, _, p := begun(t, 4)
	putNumbers(t, p, 1, 2, 3, 4)
	p.Picks([]int{1, 2})
	d.Write(5, strings.Repeat("x", api.PageBytes))
	d.Write(5+api.MaxPages, strings.Repeat("x", api.PageBytes))
	d.Sync()
	calls := d.Calls()
	for range 3 {
		wantNone(t, p, 5, api.ErrCorrupt)
		wantNone(t, p, room+1, api.ErrSpace)
		wantNone(t, p, api.MaxPages, api.ErrSpace)
		wantNone(t, p, api.MaxPages+1, api.ErrArg)
	}
	d.Crash(api.Fall{})
	wantNone(t, p, 5, api.ErrDead)
	wantNone(t, p, room+1, api.ErrDead)
	wantNone(t, p, 0, api.ErrArg)
	d.Up()
	wantNumbers(t, p, 1, 2, 3, 4)
	wantCounts(t, p, 0, 0)
	if d.Calls() != calls {
		t.Error("calls:", d.Calls()-calls)
	}
	wantPage(t, p, page.Blank(6))
	wantNumbers(t, p, 1, 3, 4, 6)
}

// 6.2: a page that can't be fetched can be put, and is then whole again.
func TestPutOverCorrupt(t *testing.T) {
	d, l, p := begun(t, 4)
	d.Write(5, strings.Repeat("x", api.PageBytes))
	d.Write(5+api.MaxPages, strings.Repeat("y", api.PageBytes))
	wantNone(t, p, 5, api.ErrCorrupt)
	x := sheet(5, 3, "again")
	put(t, p, x)
	wantPage(t, p, x)
	wantErr(t, "Write", p.Write(5), api.OK)
	wantOnDisk(t, d, 5, coded(t, x), coded(t, x))
	wantPage(t, on(t, d, l, 4), x)
}

// texts is a page's texts, those that have bytes.
func texts(x api.Sheet) []string {
	return slices.DeleteFunc(append([]string{x.Head}, x.Slots...), func(s string) bool { return s == "" })
}

// R4: what was put is not kept: neither the list of its slots, nor the bytes of its texts.
func TestPutIsNotKept(t *testing.T) {
	_, _, p := begun(t, 4)
	bytes := []byte("0123456789")
	all := unsafe.String(&bytes[0], len(bytes))
	list := []string{all[2:4], all[4:7], "spare"}
	put(t, p, api.Sheet{Number: 1, Head: all[:2], Slots: list[:2]})
	want := api.Sheet{Number: 1, Head: "01", Slots: []string{"23", "456"}}
	wantPage(t, p, want)
	if !slices.Equal(list, []string{"23", "456", "spare"}) || all != "0123456789" {
		t.Errorf("handed in: %q of %q", list, all)
	}
	clear(list)
	copy(bytes, "XXXXXXXXXX")
	wantPage(t, p, want)
	wantErr(t, "Write", p.Write(1), api.OK)
	wantPage(t, p, want)
}

// R4: what Get tells is new memory each time: of a page that was fetched, of one in its frame, of one that was put.
func TestGetIsNewMemory(t *testing.T) {
	d, l, p := begun(t, 4)
	x := sheet(1, 4, "text")
	put(t, p, x)
	wantErr(t, "Write", p.Write(1), api.OK)
	q := on(t, d, l, 4)
	places, lists := map[*byte]bool{}, map[*string]bool{}
	n := 0
	note := func(x api.Sheet) {
		for _, s := range texts(x) {
			places[unsafe.StringData(s)] = true
			n++
		}
		lists[&x.Slots[0]] = true
	}
	note(x)
	for range 3 {
		for _, from := range []api.Sheet{must(p.Get(1)), must(q.Get(1))} {
			note(from)
			if !equal(from, sheet(1, 4, "text")) {
				t.Errorf("%+v", from)
			}
			clear(from.Slots[:cap(from.Slots)])
		}
	}
	if len(places) != n || len(lists) != 7 {
		t.Errorf("%d texts at %d places, 7 lists at %d", n, len(places), len(lists))
	}
	wantPage(t, p, sheet(1, 4, "text"))
	wantPage(t, q, sheet(1, 4, "text"))
}

// must is a page that Get told.
func must(x api.Sheet, _ api.Errno) api.Sheet { return x }

// R4: the lists that are told are new memory, spare room too.
func TestListsAreNewMemory(t *testing.T) {
	_, _, p := begun(t, 4)
	putNumbers(t, p, 3, 1, 2)
	for range 2 {
		numbers, dirty := p.Numbers(), p.Dirty()
		for i := range cap(numbers) {
			numbers[:cap(numbers)][i] = 99
		}
		clear(dirty[:cap(dirty)])
	}
	wantNumbers(t, p, 1, 2, 3)
	wantDirty(t, p, api.Dirty{Page: 1, LSN: 1}, api.Dirty{Page: 2, LSN: 1}, api.Dirty{Page: 3, LSN: 1})
}
