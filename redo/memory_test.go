package redo_test

import (
	"slices"
	"testing"
	"unsafe"

	"girder/api"
	"girder/redo"
)

// R4: a record that was handed in is not kept: who writes into its bytes afterwards changes no page.
func TestRecordIsNotKept(t *testing.T) {
	for _, kind := range []int{api.OpInsert, api.OpFormat} {
		bytes := []byte("0123456789")
		s := bare(t, 4)
		r := update(4, api.Op{Kind: kind, S: unsafe.String(&bytes[2], 4)})
		s.wantOne(t, "One", 7, r, true, api.OK)
		if string(bytes) != "0123456789" {
			t.Errorf("%q", bytes)
		}
		copy(bytes, "XXXXXXXXXX")
		want := api.Sheet{Number: 4, LSN: 7, Slots: []string{"2345"}}
		if kind == api.OpFormat {
			want = api.Sheet{Number: 4, LSN: 7, Head: "2345"}
		}
		s.wantPage(t, want)
	}
}

// R4: of what was found neither the lists nor what lies in the room behind their ends is changed, and nothing is kept; what lies there counts for nothing.
func TestFoundIsNotKept(t *testing.T) {
	s, at := rows(t, 3, 4)
	s.put(t, update(5, insert("a")))
	all := append(dirty(at[1], 9, 3, 1), dirty(1, 3, 5)...)
	given := slices.Clone(all)
	txs := []api.TxState{{Tx: 9, State: api.TxActive, Last: 1}, {Tx: 2, State: api.TxAborting, Last: 2}, {Tx: 1, State: api.TxActive}}
	states := slices.Clone(txs)
	f := api.Found{Txs: txs[:2], Dirty: all[:3], Redo: 1, Most: 9, Records: 5}
	did, stood, e := redo.Run(s.p, f)
	if did != 3 || stood != 0 || e != api.OK {
		t.Error(did, stood, e)
	}
	if !slices.Equal(all, given) || !slices.Equal(txs, states) {
		t.Error("changed:", all, txs)
	}
	clear(all)
	clear(txs)
	s.wantPage(t, behind(3, at, 1, 2, 3))
	s.wantRun(t, "again", api.Found{Dirty: given[:3], Redo: 1}, 0, 3)
	if s.p.Has(5) {
		t.Error("page 5 was looked at")
	}
}

// R5: on stores that are the same Run tells the same, and does the same, each time.
func TestAlways(t *testing.T) {
	var first string
	for i := range 30 {
		s := bare(t, 4)
		s.p.Picks([]int{2, 7, 1, -3})
		for k := range 50 {
			s.put(t, both(api.Page(k*7%13+1), insert("a"))[k%4])
		}
		s.wantRun(t, "again", api.Found{Dirty: dirty(1, upToPage(13)...), Redo: 1}, 50, 0)
		if i == 0 {
			first = s.look()
		}
		if s.look() != first {
			t.Fatal(s.look(), first)
		}
	}
}
