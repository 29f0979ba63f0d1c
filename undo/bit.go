package undo

import (
	"math/bits"

	"girder/api"
	"girder/space"
)

// turnAgain is the change of the map that turns over again the bit that a change turned over. It is not the inverse of that: others may have turned bits of the same byte since.
func turnAgain(x api.Sheet, op api.Op) (api.Op, api.Errno) {
	bit, one := turned(op)
	if !one || !space.Is(x) || op.At < 0 || op.At >= len(x.Slots[0]) {
		return api.Op{}, api.ErrUndo
	}
	old := x.Slots[0][op.At]
	// Both texts are made anew: a piece of the slot would share the caller's memory.
	return api.Op{Kind: api.OpPut, At: op.At, S: string([]byte{old ^ bit}), Old: string([]byte{old})}, api.OK
}

// turned is the bit that a change of one byte turned over, and whether it was one alone.
func turned(op api.Op) (byte, bool) {
	if len(op.S) != 1 || len(op.Old) != 1 {
		return 0, false
	}
	bit := op.S[0] ^ op.Old[0]
	return bit, bits.OnesCount8(bit) == 1
}
