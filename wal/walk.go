package wal

import (
	"slices"

	"girder/api"
)

// Get is a record, and where the next one begins.
func (l *Log) Get(at api.LSN) (string, api.LSN, bool) {
	i, here := l.find(at)
	if !here {
		return "", 0, false
	}
	behind := l.End()
	if i+1 < len(l.starts) {
		behind = l.starts[i+1]
	}
	frame := l.bytes[at-1 : behind-1]
	return string(frame[headLong : len(frame)-lengthLong]), behind, true
}

// Back is the record ahead of a place.
func (l *Log) Back(at api.LSN) (api.LSN, bool) {
	i, here := l.find(at)
	if i == 0 || !here && at != l.End() {
		return 0, false
	}
	return l.starts[i-1], true
}

// Last is the last record.
func (l *Log) Last() (api.LSN, bool) { return l.Back(l.End()) }

// Len is how many records there are.
func (l *Log) Len() int {
	if l == nil {
		return 0
	}
	return len(l.starts)
}

// End is where the next record will be.
func (l *Log) End() api.LSN {
	if l == nil {
		return 0
	}
	return lsnBehind(len(l.bytes))
}

// find is how many records begin ahead of a place, and whether one begins there.
func (l *Log) find(at api.LSN) (int, bool) {
	if l == nil {
		return 0, false
	}
	return slices.BinarySearch(l.starts, at)
}
