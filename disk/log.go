package disk

import (
	"girder/api"
)

// AppendLog puts bytes behind the log.
func (d *Disk) AppendLog(s string) api.Errno {
	if d.Dead() {
		return api.ErrDead
	}
	if len(s) > api.MaxLog-len(d.log) {
		return api.ErrSpace
	}
	if !d.powered() {
		return api.ErrDead
	}
	d.log = append(d.log, s...)
	return api.OK
}

// SyncLog makes the log sure.
func (d *Disk) SyncLog() api.Errno {
	if d.Dead() || !d.powered() {
		return api.ErrDead
	}
	d.cut(len(d.log))
	return api.OK
}

// CutLog cuts the log, for sure.
func (d *Disk) CutLog(n int) api.Errno {
	if d.Dead() {
		return api.ErrDead
	}
	if n < 0 || n > len(d.log) {
		return api.ErrArg
	}
	if !d.powered() {
		return api.ErrDead
	}
	d.cut(n)
	return api.OK
}

// ReadLog is the log's bytes.
func (d *Disk) ReadLog() (string, api.Errno) {
	if d.Dead() {
		return "", api.ErrDead
	}
	return string(d.log), api.OK
}

// cut leaves the log's first bytes, and makes them sure.
func (d *Disk) cut(n int) {
	d.log = d.log[:n]
	d.sureLog = n
}
