package page

import (
	"slices"
	"strings"

	"girder/api"
)

const (
	maxText = api.PageBytes   // bytes of the longest S and Old
	maxTurn = 1 + api.MaxHead // bytes of a kind and the longest head
)

// Check tells whether a change may be.
func Check(op api.Op) api.Errno {
	if len(op.S) > maxText || len(op.Old) > maxText || !mayBe(op) {
		return api.ErrOp
	}
	return api.OK
}

// mayBe tells whether a change is as its kind asks for.
func mayBe(op api.Op) bool {
	at, s, old := op.At, len(op.S), len(op.Old)
	switch op.Kind {
	case api.OpFormat:
		return within(at, 0, maxKind) && s <= api.MaxHead && old == 0
	case api.OpInsert:
		return within(at, 0, api.MaxSlots-1) && old == 0
	case api.OpRemove:
		return within(at, 0, api.MaxSlots-1) && s == 0
	case api.OpSet:
		return within(at, 0, api.MaxSlots-1)
	case api.OpHead:
		return at == 0 && s <= api.MaxHead && old <= api.MaxHead
	case api.OpPut:
		return within(at, 0, api.PageBytes-1) && s == old && s > 0
	case api.OpTurn:
		return at == 0 && within(s, 1, maxTurn) && within(old, 1, maxTurn)
	}
	return false
}

// within tells whether n is from low to high.
func within(n, low, high int) bool { return low <= n && n <= high }

// Apply is a page behind a change.
func Apply(p api.Sheet, op api.Op, lsn api.LSN) (api.Sheet, api.Errno) {
	if e := Check(op); e != api.OK {
		return api.Sheet{}, e
	}
	// The change is done to a copy: whoever has p goes on having it as it was.
	q := copyOf(p)
	if e := change(&q, copyOfOp(op)); e != api.OK {
		return api.Sheet{}, e
	}
	q.LSN = lsn
	return q, api.OK
}

// Fits tells whether a change can be done.
func Fits(p api.Sheet, op api.Op) bool {
	_, e := Apply(p, op, 0)
	return e == api.OK
}

// Inverse is a change's inverse.
func Inverse(op api.Op) api.Op {
	op = copyOfOp(op)
	switch op.Kind {
	case api.OpFormat:
		return api.Op{Kind: api.OpFormat}
	case api.OpInsert:
		return api.Op{Kind: api.OpRemove, At: op.At, Old: op.S}
	case api.OpRemove:
		return api.Op{Kind: api.OpInsert, At: op.At, S: op.Old}
	case api.OpSet, api.OpHead, api.OpPut, api.OpTurn:
		op.S, op.Old = op.Old, op.S
	}
	return op
}

// copyOfOp is a change that shares no memory with the one that it is a copy of.
func copyOfOp(op api.Op) api.Op {
	op.S, op.Old = strings.Clone(op.S), strings.Clone(op.Old)
	return op
}

// change does to a page a change that may be.
func change(p *api.Sheet, op api.Op) api.Errno {
	switch op.Kind {
	case api.OpFormat:
		*p = api.Sheet{Number: p.Number, Kind: op.At, Head: op.S}
		return api.OK
	case api.OpInsert:
		return insert(p, op)
	case api.OpRemove:
		return remove(p, op)
	case api.OpSet:
		return set(p, op)
	case api.OpHead:
		return setHead(p, op)
	case api.OpPut:
		return put(p, op)
	}
	// Check lets no other kind through.
	return turn(p, op)
}

// insert does an OpInsert.
func insert(p *api.Sheet, op api.Op) api.Errno {
	if op.At > len(p.Slots) {
		return api.ErrArg
	}
	if len(p.Slots) >= api.MaxSlots {
		return api.ErrMany
	}
	if slotLong+len(op.S) > Room(*p) {
		return api.ErrFull
	}
	p.Slots = slices.Insert(p.Slots, op.At, op.S)
	return api.OK
}

// remove does an OpRemove.
func remove(p *api.Sheet, op api.Op) api.Errno {
	if e := stands(p, op); e != api.OK {
		return e
	}
	p.Slots = slices.Delete(p.Slots, op.At, op.At+1)
	return api.OK
}

// set does an OpSet.
func set(p *api.Sheet, op api.Op) api.Errno {
	if e := stands(p, op); e != api.OK {
		return e
	}
	if len(op.S)-len(op.Old) > Room(*p) {
		return api.ErrFull
	}
	p.Slots[op.At] = op.S
	return api.OK
}

// stands tells whether the slot At is there, and is Old.
func stands(p *api.Sheet, op api.Op) api.Errno {
	if op.At >= len(p.Slots) {
		return api.ErrArg
	}
	if p.Slots[op.At] != op.Old {
		return api.ErrOld
	}
	return api.OK
}

// setHead does an OpHead.
func setHead(p *api.Sheet, op api.Op) api.Errno {
	if p.Head != op.Old {
		return api.ErrOld
	}
	if len(op.S)-len(op.Old) > Room(*p) {
		return api.ErrFull
	}
	p.Head = op.S
	return api.OK
}

// put does an OpPut.
func put(p *api.Sheet, op api.Op) api.Errno {
	end := op.At + len(op.S)
	if len(p.Slots) == 0 || len(p.Slots[0]) < end {
		return api.ErrArg
	}
	s := p.Slots[0]
	if s[op.At:end] != op.Old {
		return api.ErrOld
	}
	p.Slots[0] = s[:op.At] + op.S + s[end:]
	return api.OK
}

// turn does an OpTurn.
func turn(p *api.Sheet, op api.Op) api.Errno {
	if len(p.Slots) > 0 {
		return api.ErrArg
	}
	if Kind(p.Kind, p.Head) != op.Old {
		return api.ErrOld
	}
	p.Kind, p.Head = int(op.S[0]), op.S[1:]
	return api.OK
}
