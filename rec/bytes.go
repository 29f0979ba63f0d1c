package rec

import (
	"girder/api"
	"girder/raw"
)

// Bytes of the parts of a record.
const (
	kindLong  = 1 // of a record's kind, and of a change's
	txLong    = 4
	lsnLong   = 8
	pageLong  = 4
	atLong    = 2
	undoLong  = 1
	indexLong = 2
	slotLong  = 2
	stateLong = 1
	countLong = 2 // of how many there are in a list
)

// Encode is a record's bytes.
func Encode(r api.Rec) (string, api.Errno) {
	if e := Check(r); e != api.OK {
		return "", e
	}
	w := raw.NewWriter()
	w.Number(uint64(r.Kind), kindLong)
	w.Number(uint64(r.Tx), txLong)
	w.Number(uint64(r.Prev), lsnLong)
	if hasNext(r) {
		w.Number(uint64(r.Next), lsnLong)
	}
	if hasChange(r) {
		putChange(w, r)
	}
	if hasKey(r) {
		putKey(w, r)
	}
	if hasLists(r) {
		putTxs(w, r.Txs)
		putDirty(w, r.Dirty)
	}
	return w.All(), api.OK
}

// putChange puts a change of a page, and how it is undone.
func putChange(w *raw.Writer, r api.Rec) {
	w.Number(uint64(r.Page), pageLong)
	w.Number(uint64(r.Op.Kind), kindLong)
	w.Number(uint64(r.Op.At), atLong)
	w.Text(r.Op.S)
	w.Text(r.Op.Old)
	w.Number(uint64(r.Undo), undoLong)
}

// putKey puts an index and an entry, and whether it is live.
func putKey(w *raw.Writer, r api.Rec) {
	w.Number(uint64(r.Index), indexLong)
	w.Text(r.Entry.Key)
	w.Number(uint64(r.Entry.RID.Page), pageLong)
	w.Number(uint64(r.Entry.RID.Slot), slotLong)
	w.Bool(r.Live)
}

// putTxs puts transactions, and ahead of them how many.
func putTxs(w *raw.Writer, txs []api.TxState) {
	w.Number(uint64(len(txs)), countLong)
	for _, t := range txs {
		w.Number(uint64(t.Tx), txLong)
		w.Number(uint64(t.State), stateLong)
		w.Number(uint64(t.Last), lsnLong)
		w.Number(uint64(t.Next), lsnLong)
	}
}

// putDirty puts dirty pages, and ahead of them how many.
func putDirty(w *raw.Writer, dirty []api.Dirty) {
	w.Number(uint64(len(dirty)), countLong)
	for _, d := range dirty {
		w.Number(uint64(d.Page), pageLong)
		w.Number(uint64(d.LSN), lsnLong)
	}
}

// Decode is the record of bytes.
func Decode(s string) (api.Rec, api.Errno) {
	in := raw.NewReader(s)
	var r api.Rec
	r.Kind = int(in.Number(kindLong))
	r.Tx = int(in.Number(txLong))
	r.Prev = api.LSN(in.Number(lsnLong))
	if hasNext(r) {
		r.Next = api.LSN(in.Number(lsnLong))
	}
	if hasChange(r) {
		takeChange(in, &r)
	}
	if hasKey(r) {
		takeKey(in, &r)
	}
	if hasLists(r) {
		r.Txs = takeTxs(in)
		r.Dirty = takeDirty(in)
	}
	// Whatever the reader met, these are the bytes of no record.
	if in.End() != api.OK || Check(r) != api.OK {
		return api.Rec{}, api.ErrRec
	}
	return r, api.OK
}

// takeChange takes what putChange puts.
func takeChange(in *raw.Reader, r *api.Rec) {
	r.Page = api.Page(in.Number(pageLong))
	r.Op.Kind = int(in.Number(kindLong))
	r.Op.At = int(in.Number(atLong))
	// How long the two may be hangs on the kind of change: Check asks for it.
	r.Op.S = in.Text(maxShort)
	r.Op.Old = in.Text(maxShort)
	r.Undo = int(in.Number(undoLong))
}

// takeKey takes what putKey puts.
func takeKey(in *raw.Reader, r *api.Rec) {
	r.Index = int(in.Number(indexLong))
	r.Entry.Key = in.Text(api.MaxKey)
	r.Entry.RID.Page = api.Page(in.Number(pageLong))
	r.Entry.RID.Slot = int(in.Number(slotLong))
	r.Live = in.Bool()
}

// takeTxs takes what putTxs puts.
func takeTxs(in *raw.Reader) []api.TxState {
	txs := make([]api.TxState, takeCount(in, api.MaxTx))
	for i := range txs {
		txs[i].Tx = int(in.Number(txLong))
		txs[i].State = int(in.Number(stateLong))
		txs[i].Last = api.LSN(in.Number(lsnLong))
		txs[i].Next = api.LSN(in.Number(lsnLong))
	}
	return txs
}

// takeDirty takes what putDirty puts.
func takeDirty(in *raw.Reader) []api.Dirty {
	dirty := make([]api.Dirty, takeCount(in, api.MaxFrames))
	for i := range dirty {
		dirty[i].Page = api.Page(in.Number(pageLong))
		dirty[i].LSN = api.LSN(in.Number(lsnLong))
	}
	return dirty
}

// takeCount takes how many there are in a list, of which there may be at most most.
func takeCount(in *raw.Reader, most int) int {
	n := int(in.Number(countLong))
	if n > most {
		in.Fail(api.ErrMany)
		return 0
	}
	return n
}
