package raw

import (
	"strings"

	"girder/api"
)

// Reader goes through bytes.
type Reader struct {
	s   string
	at  int // how many were taken
	err api.Errno
}

// NewReader is a reader at the front.
func NewReader(s string) *Reader { return &Reader{s: s} }

// Number is the next number.
func (r *Reader) Number(long int) uint64 {
	if r.stopped() {
		return 0
	}
	n, err := Get(r.s, r.at, long)
	if err != api.OK {
		r.Fail(err)
		return 0
	}
	r.at += long
	return n
}

// Bytes is the next bytes.
func (r *Reader) Bytes(n int) string {
	if r.stopped() {
		return ""
	}
	if n < 0 {
		r.Fail(api.ErrArg)
		return ""
	}
	return r.take(0, n)
}

// Text is the next text.
func (r *Reader) Text(most int) string {
	if r.stopped() {
		return ""
	}
	n, err := Get(r.s, r.at, textLong)
	if err != api.OK {
		r.Fail(err)
		return ""
	}
	long := int(n)
	if long > most {
		r.Fail(api.ErrMore)
		return ""
	}
	return r.take(textLong, long)
}

// Bool is the next byte as yes or no.
func (r *Reader) Bool() bool {
	if r.stopped() {
		return false
	}
	n, err := Get(r.s, r.at, 1)
	if err != api.OK {
		r.Fail(err)
		return false
	}
	if n > 1 {
		r.Fail(api.ErrForm)
		return false
	}
	r.at++
	return n == 1
}

// Fail lays an error.
func (r *Reader) Fail(e api.Errno) {
	// The first error tells the cause; those that follow from it must not hide it.
	if r == nil || r.err != api.OK {
		return
	}
	r.err = e
}

// Err is the error.
func (r *Reader) Err() api.Errno {
	if r == nil {
		return api.ErrArg
	}
	return r.err
}

// At is how many bytes were taken.
func (r *Reader) At() int {
	if r == nil {
		return 0
	}
	return r.at
}

// Left is how many bytes are left.
func (r *Reader) Left() int {
	if r == nil {
		return 0
	}
	return len(r.s) - r.at
}

// End is the error, or that bytes are left.
func (r *Reader) End() api.Errno {
	if r.Left() > 0 {
		r.Fail(api.ErrMore)
	}
	return r.Err()
}

// stopped tells whether nothing is to be taken any more.
func (r *Reader) stopped() bool { return r.Err() != api.OK }

// take takes ahead bytes that are known to be there, and n behind them, and is the latter.
func (r *Reader) take(ahead, n int) string {
	if n > r.Left()-ahead {
		r.Fail(api.ErrCut)
		return ""
	}
	from := r.at + ahead
	r.at = from + n
	// A copy: a short piece must not hold all of a long log in memory.
	return strings.Clone(r.s[from:r.at])
}
