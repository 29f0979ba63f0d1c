package raw

import (
	"girder/api"
)

// Writer puts bytes behind one another.
type Writer struct {
	b []byte
}

// NewWriter is a writer with nothing.
func NewWriter() *Writer { return &Writer{} }

// Number puts a number.
func (w *Writer) Number(n uint64, long int) { w.Bytes(Put(n, long)) }

// Bytes puts bytes.
func (w *Writer) Bytes(s string) {
	if w == nil {
		return
	}
	w.b = append(w.b, s...)
}

// Text puts a text.
func (w *Writer) Text(s string) api.Errno {
	if w == nil {
		return api.ErrArg
	}
	text, err := Text(s)
	if err != api.OK {
		return err
	}
	w.Bytes(text)
	return api.OK
}

// Bool puts yes or no.
func (w *Writer) Bool(b bool) {
	if b {
		w.Number(1, 1)
	} else {
		w.Number(0, 1)
	}
}

// Len is how many bytes there are.
func (w *Writer) Len() int {
	if w == nil {
		return 0
	}
	return len(w.b)
}

// All is all bytes.
func (w *Writer) All() string {
	if w == nil {
		return ""
	}
	return string(w.b)
}
