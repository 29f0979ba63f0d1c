package node_test

import (
	"math/rand"
	"slices"
	"testing"

	"girder/api"
	"girder/key"
	"girder/node"
	"girder/page"
)

// someEntry is one of few entries, so that the same one comes often.
func someEntry(r *rand.Rand) api.Entry {
	keys := []string{"", "a", "a\x00", "ab", "b", "\xff", keyOf(20)}
	return entry(keys[r.Intn(len(keys))], api.Page(r.Intn(3)*255), r.Intn(3)*300)
}

// 12.2: a leaf against a list that is kept in order, over many changes.
func TestLeafAgainstAList(t *testing.T) {
	r := rand.New(rand.NewSource(12))
	for range 60 {
		p, model := leafOf(7), []api.Item(nil)
		for range 120 {
			p, model = changeLeaf(t, r, p, model)
			wantLeaf(t, "model", p, model...)
		}
		s, e := page.Encode(p)
		if e != api.OK {
			t.Fatal(e)
		}
		back, _ := page.Decode(s)
		wantLeaf(t, "from its bytes", back, model...)
	}
}

// changeLeaf does one change to a leaf, and to the list.
func changeLeaf(t *testing.T, r *rand.Rand, p api.Sheet, model []api.Item) (api.Sheet, []api.Item) {
	t.Helper()
	en, alive := someEntry(r), r.Intn(2) == 0
	place := slices.IndexFunc(model, func(x api.Item) bool { return x.Entry == en })
	n, stands := node.Find(model, en)
	if stands != (place >= 0) || stands && n != place {
		t.Fatalf("Find of %+v: %d, %v, not %d", en, n, stands, place)
	}
	var op api.Op
	var e, want api.Errno
	next := slices.Clone(model)
	switch r.Intn(4) {
	case 0:
		op, e = node.Turn(p, en, alive)
		if place < 0 {
			want = api.ErrNone
		} else {
			next[place].Live = alive
		}
	case 1:
		gone := r.Intn(len(model) + 1)
		op, e = node.Take(p, gone)
		if gone == len(model) {
			want = api.ErrNone
		} else {
			next = slices.Delete(next, gone, gone+1)
		}
	default:
		if node.Full(p) {
			return p, model
		}
		op, e = node.PutItem(p, api.Item{Entry: en, Live: alive})
		if place >= 0 {
			want = api.ErrTwice
		} else {
			next = append(next, api.Item{Entry: en, Live: alive})
			slices.SortFunc(next, func(a, b api.Item) int { return key.Entries(a.Entry, b.Entry) })
		}
	}
	if e != want {
		t.Fatalf("%d, not %d", e, want)
	}
	if e != api.OK {
		wantNoOp(t, "model", op, e, want)
		return p, model
	}
	return done(t, p, op), next
}

// 12.2: an inner page against a list, over many changes.
func TestInnerAgainstAList(t *testing.T) {
	r := rand.New(rand.NewSource(34))
	for range 60 {
		p, model := innerOf(3), []api.Child(nil)
		for range 120 {
			place, en := r.Intn(len(model)+1), someEntry(r)
			switch r.Intn(4) {
			case 0:
				op, e := node.SetFrom(p, place, en)
				if place == len(model) {
					wantNoOp(t, "SetFrom", op, e, api.ErrNone)
				} else if page.Fits(p, op) {
					p = done(t, p, op)
					model[place].From = en
				}
			case 1:
				op, e := node.Take(p, place)
				if place == len(model) {
					wantNoOp(t, "Take", op, e, api.ErrNone)
				} else {
					p = done(t, p, op)
					model = slices.Delete(model, place, place+1)
				}
			default:
				if !node.Full(p) {
					c := child(api.Page(r.Uint32()), en)
					p = done(t, p, node.PutChild(place, c))
					model = slices.Insert(model, place, c)
				}
			}
			wantInner(t, "model", p, model...)
			wantDown(t, model, en, downByWords(model, en))
		}
		if node.Level(p) != 3 {
			t.Errorf("Level: %d", node.Level(p))
		}
	}
}

// downByWords is Down by the chapter's words: all children but the first one, and the last of those that do.
func downByWords(l []api.Child, e api.Entry) int {
	last := 0
	for i, c := range l {
		if i > 0 && key.Entries(c.From, e) <= 0 {
			last = i
		}
	}
	return last
}

// 12.3: a page that is cut at Half: both halves have slots, and neither has more than half and a slot.
func TestCutInTwo(t *testing.T) {
	r := rand.New(rand.NewSource(56))
	for range 300 {
		p := leafOf(0)
		for !node.Full(p) {
			p = put(t, p, live(entry(keyOf(r.Intn(api.MaxKey+1)), api.Page(r.Uint32()), r.Intn(65536))))
		}
		half := node.Half(p)
		ahead, behind := bytesOf(p.Slots[:half]), bytesOf(p.Slots[half:])
		if half < 1 || half >= len(p.Slots) || max(ahead, behind) > (ahead+behind)/2+7+api.MaxKey {
			t.Errorf("%d of %d slots: %d and %d bytes", half, len(p.Slots), ahead, behind)
		}
	}
}

// bytesOf is how many bytes texts have together.
func bytesOf(l []string) int {
	n := 0
	for _, s := range l {
		n += len(s)
	}
	return n
}
