package wal

import (
	"strings"

	"girder/api"
)

// Flush flushes up to a record.
func (l *Log) Flush(to api.LSN) api.Errno {
	if l == nil {
		return api.ErrArg
	}
	if l.flushed == len(l.bytes) || to < l.Flushed() {
		return api.OK
	}
	if e := l.disk.AppendLog(l.missing()); e != api.OK {
		return e
	}
	l.half = true
	if e := l.disk.SyncLog(); e != api.OK {
		return e
	}
	l.half = false
	l.flushed = len(l.bytes)
	return api.OK
}

// missing is what the disk has not of the tail.
func (l *Log) missing() string {
	if !l.half {
		return string(l.bytes[l.flushed:])
	}
	// What a fall left of the tail there must not stand there twice: all behind it would be torn.
	all := string(l.bytes)
	has, _ := l.disk.ReadLog()
	if len(has) < l.flushed || !strings.HasPrefix(all, has) {
		return all[l.flushed:]
	}
	return all[len(has):]
}

// Flushed is the first record that is not flushed.
func (l *Log) Flushed() api.LSN {
	if l == nil {
		return 0
	}
	return lsnBehind(l.flushed)
}

// Master is where the last checkpoint is.
func (l *Log) Master() api.LSN {
	if l == nil {
		return 0
	}
	mark, _ := l.disk.Mark()
	if _, here := l.find(api.LSN(mark)); !here {
		return 0
	}
	return api.LSN(mark)
}

// SetMaster tells where the last checkpoint is.
func (l *Log) SetMaster(at api.LSN) api.Errno {
	if l == nil {
		return api.ErrArg
	}
	if _, here := l.find(at); !here || at >= l.Flushed() {
		return api.ErrPlace
	}
	if e := l.disk.SetMark(uint64(at)); e != api.OK {
		return e
	}
	return l.disk.Sync()
}
