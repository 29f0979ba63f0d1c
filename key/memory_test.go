package key_test

import (
	"slices"
	"strings"
	"testing"
	"unsafe"

	"girder/api"
	"girder/key"
)

// loose is a text, and the memory in which it stands.
func loose(s string) (string, []byte) {
	b := []byte(s)
	return unsafe.String(&b[0], len(b)), b
}

// spoil lays other bytes where a text stood.
func spoil(b []byte) {
	for i := range b {
		b[i] = 'z'
	}
}

// R4: what is told does not change when the memory of what was handed in is used for something else.
func TestAnswersAreCopies(t *testing.T) {
	s, b := loose("text")
	l := list(num(7), text(s))
	row, _ := key.Row(l)
	k, _ := key.Key(l)
	picked, _ := key.Pick(l, []int{1, 0})
	told := key.Text(text(s))
	spoil(b)
	l[0] = none
	wantText(t, "Row", row, "\x02\x01\x07\x00\x00\x00\x00\x00\x00\x00\x02\x04text")
	wantText(t, "Key", k, "\x01\x80\x00\x00\x00\x00\x00\x00\x07\x02text\x00\x00")
	wantText(t, "Text", told, "'text")
	if !slices.Equal(picked, list(text("text"), num(7))) {
		t.Error("Pick:", picked)
	}

	s, b = loose("\x01\x02\x04text")
	values, _ := key.Values(s)
	spoil(b)
	if !slices.Equal(values, list(text("text"))) {
		t.Error("Values:", values)
	}

	s, b = loose("'text")
	v, _ := key.Parse(s)
	spoil(b)
	if v != text("text") {
		t.Error("Parse:", v)
	}
}

func wantText(t *testing.T, name, got, want string) {
	t.Helper()
	if got != want {
		t.Errorf("%s: %q, not %q", name, got, want)
	}
}

// R4: two answers share nothing, their spare room neither.
func TestAnswersShareNothing(t *testing.T) {
	row := list(text("a"), num(1), text("b"))
	s, _ := key.Row(row)
	cols := []int{0, 2, 0}
	a, _ := key.Pick(row, cols)
	b, _ := key.Pick(row, cols)
	c, _ := key.Values(s)
	d, _ := key.Values(s)
	for _, l := range [][]api.Value{a, c} {
		for i := range l[:cap(l)] {
			l[:cap(l)][i] = num(99)
		}
	}
	if !slices.Equal(b, list(text("a"), text("b"), text("a"))) || !slices.Equal(d, row) {
		t.Error("two answers share memory:", b, d)
	}
	if !slices.Equal(row, list(text("a"), num(1), text("b"))) || !slices.Equal(cols, []int{0, 2, 0}) {
		t.Error("what was handed in was changed:", row, cols)
	}
	if b[0].S == b[2].S && unsafe.StringData(b[0].S) == unsafe.StringData(b[2].S) {
		t.Error("a column twice shares its text's memory")
	}
}

// R4: what is handed in is not changed, what lies in its spare room neither.
func TestArgumentsStay(t *testing.T) {
	room := list(num(1), text("a"), none, text("b"), text(long(20)), num(9))
	numbers := []int{1, 0, 2, 7, 8}
	want, wantNumbers := slices.Clone(room), slices.Clone(numbers)
	l, cols := room[:3], numbers[:3]
	key.Row(l)
	key.Key(l)
	key.Pick(l, cols)
	key.Compare(l, room[1:4])
	if !slices.Equal(room, want) || !slices.Equal(numbers, wantNumbers) {
		t.Error("changed:", room, numbers)
	}
}

// R5: the same arguments tell the same, each time.
func TestAgain(t *testing.T) {
	l := list(num(-5), text("a\x00"), none)
	var met []string
	for range 3 {
		row, _ := key.Row(l)
		k, _ := key.Key(l)
		met = append(met, row+"|"+k+"|"+key.Text(l[1]))
		key.Row(nil)
		key.Key(bad())
		key.Parse(strings.Repeat("9", 30))
	}
	if met[0] != met[1] || met[1] != met[2] {
		t.Error(met)
	}
}
