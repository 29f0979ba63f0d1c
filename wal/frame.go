package wal

import (
	"girder/api"
	"girder/raw"
)

// Bytes of the parts of a frame, beside the record.
const (
	lengthLong = 4 // stands at both ends
	sumLong    = 4
	headLong   = lengthLong + sumLong
	lsnLong    = 8 // is summed, but does not stand there
)

// Frame is a record's frame at a place.
func Frame(at api.LSN, s string) (string, api.Errno) {
	if len(s) == 0 || len(s) > api.MaxRecord {
		return "", api.ErrRecord
	}
	if at == 0 {
		return "", api.ErrArg
	}
	long := raw.Put(uint64(len(s)), lengthLong)
	sum := raw.More(raw.Sum(raw.Put(uint64(at), lsnLong)), s)
	return long + raw.Put(uint64(sum), sumLong) + s + long, api.OK
}

// frameAt is how many bytes the frame has that stands in a log behind its first at bytes; 0: none that is whole and right.
func frameAt(log string, at int) int {
	n, e := raw.Get(log, at, lengthLong)
	if e != api.OK || n > api.MaxRecord {
		return 0
	}
	long := int(n) + api.FrameBytes
	if long > len(log)-at {
		return 0
	}
	stands := log[at : at+long]
	frame, e := Frame(lsnBehind(at), stands[headLong:long-lengthLong])
	if e != api.OK || frame != stands {
		return 0
	}
	return long
}

// lsnBehind is the LSN of what begins behind so many bytes of the log.
func lsnBehind(n int) api.LSN { return api.LSN(n) + 1 }
