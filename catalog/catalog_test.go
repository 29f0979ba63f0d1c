package catalog_test

import (
	"fmt"
	"slices"
	"strings"
	"testing"

	"girder/api"
	"girder/catalog"
	"girder/disk"
	"girder/heap"
	"girder/node"
	"girder/page"
	"girder/space"
)

// The chapter's example.
func TestExample(t *testing.T) {
	s := begun(t)
	n := s.begin(t)
	x, e := catalog.Create(s.Manager, n, "a", 2)
	if x.ID != 1 || x.First != 3 || e != api.OK {
		t.Error("Create:", x, e)
	}
	s.commit(t, n)
}

// 17.1: a name has 1 to 16 small letters and digits.
func TestName(t *testing.T) {
	for _, name := range []string{"a", "z", "0", "9", "a1", "1a", "00", "abcdefghijklmnop", "qrstuvwxyz012345", strings.Repeat("9", 16)} {
		if !catalog.Name(name) {
			t.Errorf("Name(%q) is false", name)
		}
	}
	for _, name := range []string{"", strings.Repeat("a", 17), strings.Repeat("a", 1<<16), "A", "Z", "aB", "abcdefghijklmnoP", "_", "a_b", "a-b", "a.", ".a", " ", "a ", " a", "a b", "a\n", "\x00", "a\x00", "\x7f", "\x80", "\xff", "a\xff", "é", "ä1", "а", "´", "/", ":", "`", "{", "@", "["} {
		if catalog.Name(name) {
			t.Errorf("Name(%q) is true", name)
		}
	}
}

// 17.1: of one byte just 36 are names, at each place of a name.
func TestNameBytes(t *testing.T) {
	const letters = "abcdefghijklmnopqrstuvwxyz0123456789"
	for b := range 256 {
		want := strings.IndexByte(letters, byte(b)) >= 0
		for _, name := range []string{string([]byte{byte(b)}), "x" + string([]byte{byte(b)}), string([]byte{byte(b)}) + "x", strings.Repeat("x", 15) + string([]byte{byte(b)})} {
			if catalog.Name(name) != want {
				t.Errorf("Name(%q) is %t", name, !want)
			}
		}
	}
}

// mapBytes is the map's slot of which the first two pages are taken.
var mapBytes = "\x03" + strings.Repeat("\x00", 255)

// wantLaid asks for the first pages, and that no other one was touched.
func (s store) wantLaid(t *testing.T) {
	t.Helper()
	s.wantPage(t, api.Sheet{Number: 1, Kind: api.KindMap, Slots: []string{mapBytes}})
	s.wantPage(t, api.Sheet{Number: 2, Kind: api.KindHeap, Head: "\x00\x00\x00\x00"})
	for n := api.Page(3); n <= api.Page(s.d.Room()); n++ {
		s.wantPage(t, page.Blank(n))
	}
}

// wantBegun asks what Begun tells.
func (s store) wantBegun(t *testing.T, want bool) {
	t.Helper()
	if is, e := catalog.Begun(s.Manager); is != want || e != api.OK {
		t.Errorf("Begun: %t, %d, not %t", is, e, want)
	}
}

// 17.1: Begin on a fresh store: the map, the catalog's first page, in a transaction of its own that is committed and gone.
func TestBegin(t *testing.T) {
	for _, room := range []int{8, room, api.MaxPages} {
		s := bare(t, room, frames)
		s.wantBegun(t, false)
		wantErr(t, "Begin", catalog.Begin(s.Manager), api.OK)
		s.wantBegun(t, true)
		if room < api.MaxPages {
			s.wantLaid(t)
		}
		s.wantTaken(t, 1, 2)
		s.wantAll(t)
		l := records(t, s.l, 1)
		if !slices.Equal(kinds(l), []int{api.RecUpdate, api.RecUpdate, api.RecUpdate, api.RecCommit, api.RecEnd}) {
			t.Errorf("records: %v", l)
		}
		for _, x := range l {
			if x.r.Tx != 1 || x.r.Kind == api.RecUpdate && x.r.Undo != api.UndoPage {
				t.Errorf("%+v", x)
			}
		}
		// All up to the RecCommit is flushed.
		if s.l.Flushed() <= l[3].at || len(s.All()) != 0 || !slices.Equal(s.Done(), []int{1}) || s.Coming() != 2 || s.l.Kept() != 0 {
			t.Error("flushed:", s.l.Flushed(), "under way:", s.All(), "done:", s.Done(), "coming:", s.Coming(), "kept:", s.l.Kept())
		}
	}
}

// 17.1: Begin beside another one that is under way, which goes back.
func TestBeginBeside(t *testing.T) {
	s := bare(t, room, frames)
	n := s.begin(t)
	wantErr(t, "Begin", catalog.Begin(s.Manager), api.OK)
	if !slices.Equal(s.Done(), []int{2}) || len(s.All()) != 1 {
		t.Error("done:", s.Done(), "under way:", s.All())
	}
	s.create(t, n, "a", 1)
	s.abort(t, n)
	s.wantAll(t)
	s.wantBegun(t, true)
}

// 17.1: Begun tells of both: of a map alone, of a catalog alone, of pages of other kinds it is false.
func TestBegun(t *testing.T) {
	ops, _ := space.Fresh(2)
	full := []string{mapBytes}
	for i, c := range []struct {
		l    []api.Sheet
		want bool
	}{
		{nil, false},
		{[]api.Sheet{{Number: 1, Kind: api.KindMap, Slots: full}}, false},
		{[]api.Sheet{{Number: 2, Kind: api.KindHeap, Head: "\x00\x00\x00\x00"}}, false},
		{[]api.Sheet{{Number: 1, Kind: api.KindMap}, {Number: 2, Kind: api.KindHeap, Head: "\x00\x00\x00\x00"}}, false},
		{[]api.Sheet{{Number: 1, Kind: api.KindMap, Slots: full}, {Number: 2, Kind: api.KindLeaf, Head: "\x00\x00\x00\x00"}}, false},
		{[]api.Sheet{{Number: 1, Kind: api.KindMap, Slots: full}, {Number: 2, Kind: api.KindMap, Slots: full}}, false},
		{[]api.Sheet{{Number: 1, Kind: api.KindHeap, Head: "\x00\x00\x00\x00"}, {Number: 2, Kind: api.KindHeap, Head: "\x00\x00\x00\x00"}}, false},
		{[]api.Sheet{{Number: 2, Kind: api.KindMap, Slots: full}, {Number: 1, Kind: api.KindHeap, Head: "\x00\x00\x00\x00"}}, false},
		{[]api.Sheet{{Number: 1, Kind: api.KindMap, Slots: []string{ops[1].S}}, {Number: 2, Kind: api.KindHeap, Head: "\x00\x00\x00\x00"}}, true},
		// Rows that can't be read: it is there.
		{[]api.Sheet{{Number: 1, Kind: api.KindMap, Slots: full}, {Number: 2, Kind: api.KindHeap, Head: "\x00\x00\x00\x00", Slots: []string{"x"}}}, true},
	} {
		s := bare(t, room, frames)
		for _, x := range c.l {
			wantErr(t, "pool.Put", s.p.Put(x), api.OK)
		}
		was := s.look(t)
		if is, e := catalog.Begun(s.Manager); is != c.want || e != api.OK {
			t.Errorf("%d: Begun: %t, %d", i, is, e)
		}
		s.wantSame(t, "Begun", was)
	}
}

// 17.1: Begin behind what did not come so far: both are laid anew.
func TestBeginOver(t *testing.T) {
	for i, x := range []api.Sheet{
		{Number: 1, Kind: api.KindMap},
		{Number: 1, Kind: api.KindMap, Slots: []string{mapBytes}},
		{Number: 2, Kind: api.KindHeap, Head: "\x00\x00\x00\x00", Slots: []string{"x"}},
		{Number: 2, Kind: api.KindLeaf, Head: "head", Slots: []string{"x"}},
	} {
		s := bare(t, room, frames)
		wantErr(t, "pool.Put", s.p.Put(x), api.OK)
		s.wantBegun(t, false)
		wantErr(t, "Begin", catalog.Begin(s.Manager), api.OK)
		s.wantLaid(t)
		if t.Failed() {
			t.Fatal(i)
		}
	}
}

// 17.1, R2: Begin that can't be done: the log is full, or one more transaction may not be, or the power is off: nothing is there, and nobody is under way.
func TestBeginFails(t *testing.T) {
	failed := 0
	for free := 0; ; free += 31 {
		s := bare(t, 8, frames)
		s.leave(t, free)
		e := catalog.Begin(s.Manager)
		if e == api.OK {
			s.wantBegun(t, true)
			break
		}
		failed++
		wantErr(t, "Begin", e, api.ErrLog)
		s.wantBegun(t, false)
		for n := range api.Page(8) {
			s.wantPage(t, page.Blank(n+1))
		}
		if len(s.All()) != 0 || len(s.Done()) != 0 {
			t.Error("under way:", s.All(), "done:", s.Done())
		}
		if e := s.l.Keep(s.l.Room() - s.l.Kept() + 1); e == api.OK {
			t.Error("kept:", s.l.Kept())
		}
		// With room it can be done.
		s.l.Give(s.l.Kept())
		wantErr(t, "Begin", catalog.Begin(s.Manager), api.OK)
		s.wantLaid(t)
	}
	if failed < 20 {
		t.Error("failed:", failed)
	}
	s := bare(t, 8, frames)
	for range api.MaxTx {
		s.begin(t)
	}
	s.wantFails(t, "Begin", api.ErrMany, func() api.Errno { return catalog.Begin(s.Manager) })
	s.abort(t, 1)
	wantErr(t, "Begin", catalog.Begin(s.Manager), api.OK)
	s.wantLaid(t)
}

// 17.1: the power fails at each call of the disk while Begin is under way: it says so, and the same store, or what stands up, can begin anew; what was told stays.
func TestBeginFalls(t *testing.T) {
	dead := 0
	for fall := range 12 {
		for _, log := range []int{0, 50, 320, 1 << 20} {
			d, _ := disk.New(8)
			s := over(t, d, 4)
			d.Plan([]api.Fall{{At: fall, Log: log}})
			e := catalog.Begin(s.Manager)
			if e == api.ErrDead {
				dead++
				if len(s.All()) != 0 || len(s.Done()) != 0 {
					t.Error("under way:", s.All(), "done:", s.Done())
				}
			} else {
				wantErr(t, "Begin", e, api.OK)
				d.Crash(api.Fall{Log: log})
			}
			d.Plan(nil)
			d.Up()
			again, _ := risen(t, d.Clone(), 4)
			is, e2 := catalog.Begun(again.Manager)
			wantErr(t, "Begun", e2, api.OK)
			if e == api.OK && !is {
				t.Error("fall", fall, "log", log, ": it was told, and is not there")
			}
			if !is {
				wantErr(t, "Begin", catalog.Begin(again.Manager), api.OK)
			}
			again.wantLaid(t)
			if e == api.ErrDead {
				wantErr(t, "Begin", catalog.Begin(s.Manager), api.OK)
				s.wantLaid(t)
				d.Crash(api.Fall{})
				d.Up()
				again, _ := risen(t, d, 4)
				again.wantBegun(t, true)
				again.wantLaid(t)
			}
		}
	}
	if dead < 6 {
		t.Error("it fell too seldom in the midst:", dead)
	}
}

// 17.1: All and Find of a catalog without tables, and that they change nothing.
func TestNone(t *testing.T) {
	s := begun(t)
	was := s.look(t)
	s.wantAll(t)
	s.wantNone(t, "a", "", "A", strings.Repeat("a", 17), strings.Repeat("a", 1<<16), "\x00")
	s.wantSame(t, "All and Find", was)
}

// 17.1: All: tables by their numbers, each with its indexes by theirs, whatever the order in which rows stand; Find: each of them.
func TestAll(t *testing.T) {
	want := []api.Table{
		table("b", 2, 9, 3, index("y", 1, 4, true, 2, 0, 1), index("x", 3, 5, false, 0)),
		table("a", 4, 8, 1),
		table("abcdefghijklmnop", 7, 2048, 4, index("x", 6, 2048, false, 3), index("w", 8, 6, true, 0, 1, 2, 3), index("v", 9, 7, false, 1, 1), index("a", 32767, 1, true, 2)),
		table("0", 32766, 3, 2, index("0123456789abcdef", 5, 3, false, 1, 0)),
	}
	rows := []string{
		row("tb", 2, 9, 3), row("iy", 1, 2<<32|4, packed(true, 2, 0, 1)), row("ix", 3, 2<<32|5, packed(false, 0)),
		row("ta", 4, 8, 1),
		row("tabcdefghijklmnop", 7, 2048, 4), row("ix", 6, 7<<32|2048, packed(false, 3)), row("iw", 8, 7<<32|6, packed(true, 0, 1, 2, 3)), row("iv", 9, 7<<32|7, packed(false, 1, 1)), row("ia", 32767, 7<<32|1, packed(true, 2)),
		row("t0", 32766, 3, 2), row("i0123456789abcdef", 5, 32766<<32|3, packed(false, 1, 0)),
	}
	for turn := range 40 {
		s := begun(t)
		l := slices.Clone(rows)
		for i := range l {
			j := i + (turn*turn+7*turn+i*turn)%(len(l)-i)
			l[i], l[j] = l[j], l[i]
		}
		if turn%2 == 1 {
			slices.Reverse(l)
		}
		s.plant(t, l...)
		was := s.look(t)
		s.wantAll(t, want...)
		s.wantNone(t, "x", "y", "c", "ta", "", "abcdefghijklmno", "abcdefghijklmnopq", "A")
		s.wantSame(t, "All and Find", was)
		if t.Failed() {
			t.Fatalf("%q", l)
		}
	}
}

// packed is columns as they stand in a row: how many, each in four bits, a bit, how many in eight bits, the first one highest.
func packed(unique bool, cols ...int) uint64 {
	bits := fmt.Sprintf("%b", len(cols))
	for _, c := range cols {
		bits += fmt.Sprintf("%04b", c)
	}
	bits += map[bool]string{false: "0", true: "1"}[unique] + fmt.Sprintf("%08b", len(cols))
	n := uint64(0)
	for _, b := range bits {
		n = n<<1 | uint64(b-'0')
	}
	return n
}

// 17.1: the greatest catalog: MaxTables tables of MaxIndex indexes each, over many pages.
func TestGreatest(t *testing.T) {
	s := laid(t, 200, 4)
	n := s.begin(t)
	var want []api.Table
	for i := range api.MaxTables {
		want = append(want, s.create(t, n, fmt.Sprint("t", i), api.MaxCols))
	}
	for i := range api.MaxIndex {
		for j := range want {
			at := (j*5 + i) % len(want)
			x := s.index(t, n, want[at].Name, fmt.Sprint("i", i), (i+j)%2 == 0, []int{0, 1, 2, 3}[:1+(i+j)%4]...)
			want[at].Indexes = append(want[at].Indexes, x)
		}
	}
	s.commit(t, n)
	s.wantAll(t, want...)
	s.wantEmpty(t, want...)
	if l := s.rows(t); len(l) != 80 {
		t.Error("rows:", len(l))
	}
	pages, e := heap.Pages(s.Manager, api.RootPage)
	if len(pages) != (80+pageSlots-1)/pageSlots || e != api.OK {
		t.Error("pages:", pages, e)
	}
	again, _ := risen(t, s.cutLog(t, s.l.End()), 5)
	again.wantAll(t, want...)
	again.wantEmpty(t, want...)
}

// 17.1 to 17.3: a catalog that can't be read, as a page of it is none of rows: each call says so, and changes nothing.
func TestNoCatalog(t *testing.T) {
	for _, l := range [][]api.Sheet{
		{page.Blank(2)},
		{{Number: 2, Kind: api.KindMap, Slots: []string{mapBytes}}},
		{{Number: 2, Kind: api.KindLeaf, Head: "\x00\x00\x00\x00"}},
		{{Number: 2, Kind: api.KindHeap}},
		{{Number: 2, Kind: api.KindHeap, Head: "\x00\x00\x00\x00", Slots: []string{"x"}}},
		{{Number: 2, Kind: api.KindHeap, Head: "\x02\x00\x00\x00"}},
		{{Number: 2, Kind: api.KindHeap, Head: "\x05\x00\x00\x00"}, page.Blank(5)},
	} {
		s := begun(t)
		for _, x := range l {
			wantErr(t, "pool.Put", s.p.Put(x), api.OK)
		}
		s.wantUnread(t, api.ErrCatalog)
		if t.Failed() {
			t.Fatalf("%+v", l)
		}
	}
	// A store on which nothing was begun.
	bare(t, room, frames).wantUnread(t, api.ErrCatalog)
}

// wantUnread asks that each call says that the catalog can't be read, and changes nothing.
func (s store) wantUnread(t *testing.T, want api.Errno) {
	t.Helper()
	n := s.begin(t)
	s.wantFails(t, "All", want, func() api.Errno {
		l, e := catalog.All(s.Manager)
		return nothing(e, len(l) == 0)
	})
	for _, name := range []string{"a", "b"} {
		s.wantFails(t, "Find", want, func() api.Errno {
			x, e := catalog.Find(s.Manager, name)
			return nothing(e, told(x) == told(api.Table{}))
		})
		s.wantFails(t, "Create", want, s.creates(n, name, 1))
		s.wantFails(t, "CreateIndex", want, s.indexes(n, name, "z", 0))
		s.wantFails(t, "Drop", want, s.drops(n, name))
	}
	// What is told of names and columns alone comes ahead of that.
	s.wantFails(t, "Create", api.ErrName, s.creates(n, "", 0))
	s.wantFails(t, "Create", api.ErrCols, s.creates(n, "a", 0))
	s.wantFails(t, "CreateIndex", api.ErrName, s.indexes(n, "a", "A", 9))
	s.abort(t, n)
}

// 17.1 to 17.3: rows of the catalog that can't be read, beside one that can.
func TestUnreadRows(t *testing.T) {
	good := []string{row("ta", 1, 3, 2), row("ix", 2, 1<<32|4, packed(true, 1, 0))}
	none := string([]byte{4, 2, 2}) + "tz" + "\x00" + number(3) + number(1)
	text := string([]byte{4, 2, 2}) + "tz" + "\x02\x013" + number(3) + number(1)
	for _, bad := range []string{
		// No row's bytes.
		"", "x", "tz", strings.Repeat("\x00", 60), strings.Repeat("\xff", 60), row("tz", 3, 5, 1) + "\x00", row("tz", 3, 5, 1)[:28],
		// Other values: too few, other kinds.
		"\x01\x00", row("tz"), row("tz", 3), row("tz", 3, 5), row("iz", 3, 1<<32|5), none, text,
		"\x04" + number(3) + number(3) + number(5) + number(1),
		"\x04" + "\x00" + number(3) + number(5) + number(1),
		"\x04" + number(3) + "\x02\x02tz" + number(5) + number(1),
		// Other texts.
		row("", 3, 5, 1), row("t", 3, 5, 1), row("i", 3, 1<<32|5, packed(false, 0)), row("z", 3, 5, 1), row("az", 3, 5, 1), row("Tz", 3, 5, 1), row(" tz", 3, 5, 1),
		row("tZ", 3, 5, 1), row("iZ", 3, 1<<32|5, packed(false, 0)), row("tz ", 3, 5, 1), row("tabcdefghijklmnopq", 3, 5, 1), row("iabcdefghijklmnopq", 3, 1<<32|5, packed(false, 0)),
		// Numbers that may not be, or that are there already.
		row("tz", 0, 5, 1), row("tz", 1<<15, 5, 1), row("tz", 1<<63, 5, 1), row("tz", 1<<64-1, 5, 1), row("tz", 1<<32|3, 5, 1), row("tz", 1, 5, 1), row("tz", 2, 5, 1),
		row("iz", 0, 1<<32|5, packed(false, 0)), row("iz", 1<<15, 1<<32|5, packed(false, 0)), row("iz", 1<<64-1, 1<<32|5, packed(false, 0)), row("iz", 1, 1<<32|5, packed(false, 0)), row("iz", 2, 1<<32|5, packed(false, 0)),
		// First pages and roots that are none.
		row("tz", 3, 0, 1), row("tz", 3, 2049, 1), row("tz", 3, 1<<32|5, 1), row("tz", 3, 1<<64-1, 1),
		row("iz", 3, 1<<32, packed(false, 0)), row("iz", 3, 1<<32|2049, packed(false, 0)), row("iz", 3, 2<<32-1, packed(false, 0)),
		// Numbers of columns.
		row("tz", 3, 5, 0), row("tz", 3, 5, 5), row("tz", 3, 5, 1<<32|1), row("tz", 3, 5, 1<<64-1),
		// Indexes of no table.
		row("iz", 3, 5, packed(false, 0)), row("iz", 3, 2<<32|5, packed(false, 0)), row("iz", 3, 3<<32|5, packed(false, 0)), row("iz", 3, 4<<32|5, packed(false, 0)), row("iz", 3, 1<<63|1<<32|5, packed(false, 0)),
		// Columns: none, too many, none of the table's; bits that are not as they are laid.
		row("iz", 3, 1<<32|5, packed(false)), row("iz", 3, 1<<32|5, packed(false, 0, 1, 0)), row("iz", 3, 1<<32|5, packed(false, 2)), row("iz", 3, 1<<32|5, packed(false, 0, 15)),
		row("iz", 3, 1<<32|5, 0), row("iz", 3, 1<<32|5, 1), row("iz", 3, 1<<32|5, packed(false, 0)-1), row("iz", 3, 1<<32|5, packed(false, 0)+1), row("iz", 3, 1<<32|5, packed(false, 0)|1<<14), row("iz", 3, 1<<32|5, packed(false, 0)|1<<62), row("iz", 3, 1<<32|5, packed(false, 0)|1<<63),
		row("iz", 3, 1<<32|5, packed(false, 0, 0, 0, 0, 0)), row("iz", 3, 1<<32|5, 1<<64-1),
		// Names that are there already.
		row("ta", 3, 5, 1), row("ix", 3, 1<<32|5, packed(false, 0)),
	} {
		for _, l := range [][]string{append(slices.Clone(good), bad), append([]string{bad}, good...)} {
			s := laid(t, 8, frames)
			s.plant(t, l...)
			s.wantUnread(t, api.ErrCatalog)
			if t.Failed() {
				t.Fatalf("%q", l)
			}
		}
	}
	// And the same can be read, when it is right.
	s := begun(t)
	s.plant(t, append(good, row("tz", 3, 5, 1), row("iz", 4, 1<<32|6, packed(false, 0)), row("ix", 5, 3<<32|7, packed(false, 0)))...)
	s.wantAll(t, table("a", 1, 3, 2, index("x", 2, 4, true, 1, 0), index("z", 4, 6, false, 0)), table("z", 3, 5, 1, index("x", 5, 7, false, 0)))
}

// 17.1: a row of which any bit is another one: it can't be read, or says just what it has.
func TestAnyBits(t *testing.T) {
	good := row("iz", 3, 1<<32|5, packed(true, 1, 0))
	read := 0
	for at := range good {
		for bit := range 8 {
			b := []byte(good)
			b[at] ^= 1 << bit
			s := laid(t, 8, frames)
			s.plant(t, row("ta", 1, 3, 2), string(b))
			l, e := catalog.All(s.Manager)
			if e == api.ErrCatalog {
				continue
			}
			read++
			if e != api.OK || len(l) != 1 || len(l[0].Indexes) != 1 {
				t.Fatalf("%q: %+v, %d", b, l, e)
			}
			x := l[0].Indexes[0]
			if is := row("i"+x.Name, uint64(x.ID), 1<<32|uint64(x.Root), packed(x.Unique, x.Cols...)); is != string(b) {
				t.Errorf("%q: %q, %+v", b, is, x)
			}
		}
	}
	// Another letter, number, root or column, or unique.
	if read < 20 {
		t.Error("read:", read)
	}
}

// A page of the catalog, or the map, that can't be had: the error of the pool.
func TestUnreadPages(t *testing.T) {
	for _, c := range []struct {
		n    api.Page
		want api.Errno
	}{{2, api.ErrCorrupt}, {1, api.ErrCorrupt}} {
		s := begun(t)
		n := s.begin(t)
		s.create(t, n, "a", 2)
		s.commit(t, n)
		wantErr(t, "WriteAll", s.p.WriteAll(), api.OK)
		for _, p := range []api.Page{c.n, c.n + api.MaxPages} {
			wantErr(t, "Write", s.d.Write(p, strings.Repeat("#", api.PageBytes)), api.OK)
		}
		s = over(t, s.d, frames)
		n = s.begin(t)
		if is, e := catalog.Begun(s.Manager); is || e != c.want {
			t.Error("Begun:", is, e)
		}
		wantErr(t, "Create", s.creates(n, "b", 1)(), c.want)
		wantErr(t, "CreateIndex", s.indexes(n, "a", "x", 0)(), c.want)
		if c.n == api.RootPage {
			wantErr(t, "Drop", s.drops(n, "a")(), c.want)
			if l, e := catalog.All(s.Manager); len(l) != 0 || e != c.want {
				t.Error("All:", l, e)
			}
			if x, e := catalog.Find(s.Manager, "a"); told(x) != told(api.Table{}) || e != c.want {
				t.Error("Find:", x, e)
			}
		} else {
			s.drop(t, n, "a")
		}
	}
}

// The power is off: what must be read is told as the disk tells it.
func TestDeadDisk(t *testing.T) {
	s := begun(t)
	n := s.begin(t)
	s.create(t, n, "a", 2)
	s.commit(t, n)
	wantErr(t, "WriteAll", s.p.WriteAll(), api.OK)
	s = over(t, s.d, 4)
	n = s.begin(t)
	s.d.Crash(api.Fall{})
	if is, e := catalog.Begun(s.Manager); is || e != api.ErrDead {
		t.Error("Begun:", is, e)
	}
	if l, e := catalog.All(s.Manager); len(l) != 0 || e != api.ErrDead {
		t.Error("All:", l, e)
	}
	if x, e := catalog.Find(s.Manager, "a"); told(x) != told(api.Table{}) || e != api.ErrDead {
		t.Error("Find:", x, e)
	}
	wantErr(t, "Create", s.creates(n, "b", 1)(), api.ErrDead)
	wantErr(t, "CreateIndex", s.indexes(n, "a", "x", 0)(), api.ErrDead)
	wantErr(t, "Drop", s.drops(n, "a")(), api.ErrDead)
	wantErr(t, "Begin", catalog.Begin(s.Manager), api.ErrDead)
	if len(s.All()) != 1 {
		t.Error("under way:", s.All())
	}
	s.d.Up()
	s.wantAll(t, table("a", 1, 3, 2))
}

// A nil manager, at each call; what is told of names and columns comes ahead of that.
func TestNilManager(t *testing.T) {
	var s store
	wantErr(t, "Begin", catalog.Begin(nil), api.ErrArg)
	if is, e := catalog.Begun(nil); is || e != api.ErrArg {
		t.Error("Begun:", is, e)
	}
	if l, e := catalog.All(nil); len(l) != 0 || e != api.ErrArg {
		t.Error("All:", l, e)
	}
	for _, name := range []string{"a", ""} {
		if x, e := catalog.Find(nil, name); told(x) != told(api.Table{}) || e != api.ErrArg {
			t.Error("Find:", x, e)
		}
		wantErr(t, "Drop", s.drops(1, name)(), api.ErrArg)
		wantErr(t, "CreateIndex", s.indexes(1, name, "x", 0)(), api.ErrArg)
	}
	wantErr(t, "Create", s.creates(1, "a", 1)(), api.ErrArg)
	wantErr(t, "Create", s.creates(1, "", 0)(), api.ErrName)
	wantErr(t, "Create", s.creates(1, "a", 0)(), api.ErrCols)
	wantErr(t, "CreateIndex", s.indexes(1, "a", "", 0)(), api.ErrName)
}

// Transactions that are none, at each call that changes something; the chapter's errors come ahead of that.
func TestNoTransaction(t *testing.T) {
	s := begun(t)
	n := s.begin(t)
	s.create(t, n, "a", 2)
	s.index(t, n, "a", "x", true, 0)
	s.commit(t, n)
	gone := s.begin(t)
	s.abort(t, gone)
	for _, tx := range []int{-1 << 63, -1, 0, 1, n, gone, s.Coming(), 1 << 31, 1<<63 - 1} {
		s.wantFails(t, "Create", api.ErrTx, s.creates(tx, "b", 1))
		s.wantFails(t, "CreateIndex", api.ErrTx, s.indexes(tx, "a", "y", 0))
		s.wantFails(t, "Drop", api.ErrTx, s.drops(tx, "a"))
		s.wantFails(t, "Create", api.ErrTwice, s.creates(tx, "a", 1))
		s.wantFails(t, "CreateIndex", api.ErrTwice, s.indexes(tx, "a", "x", 0))
		s.wantFails(t, "Drop", api.ErrTable, s.drops(tx, "b"))
	}
	// One that is going back, and stands behind a record that is not taken back.
	n = s.begin(t)
	s.create(t, n, "c", 1)
	_, e := s.Log(n, api.Change{Page: 60, Op: node.FormatLeaf(0)})
	wantErr(t, "Log", e, api.OK)
	wantErr(t, "Abort", s.Abort(n, func(int, api.Rec) api.Errno { return 777 }), 777)
	s.wantFails(t, "Create", api.ErrState, s.creates(n, "b", 1))
	s.wantFails(t, "CreateIndex", api.ErrState, s.indexes(n, "a", "y", 0))
	s.wantFails(t, "Drop", api.ErrState, s.drops(n, "a"))
	s.abort(t, n)
	s.wantAll(t, table("a", 1, 3, 2, index("x", 2, 4, true, 0)))
}

// One that a restart laid, whose undoing goes on at a record that is not taken back: a call that fails leaves it there.
func TestNotActiveStays(t *testing.T) {
	s := begun(t)
	n := s.begin(t)
	s.create(t, n, "a", 1)
	at, e := s.Log(n, api.Change{Page: 60, Op: node.FormatLeaf(0)})
	wantErr(t, "Log", e, api.OK)
	s.commit(t, n)
	wantErr(t, "Load", s.Load([]api.TxState{{Tx: n, State: api.TxAborting, Last: at, Next: at}}, n+1), api.OK)
	s.wantFails(t, "Create", api.ErrState, s.creates(n, "b", 1))
	s.wantFails(t, "CreateIndex", api.ErrState, s.indexes(n, "a", "y", 0))
	s.wantFails(t, "Drop", api.ErrState, s.drops(n, "a"))
}
