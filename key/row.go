package key

import (
	"strings"

	"girder/api"
	"girder/raw"
)

// Bytes of the parts of a row; in keys kinds and numbers have as many.
const (
	countLong  = 1 // of how many values there are
	kindLong   = 1
	numberLong = 8
	textLong   = 1 // of a text's length
)

// Row is a row's bytes.
func Row(l []api.Value) (string, api.Errno) {
	if len(l) < 1 || len(l) > api.MaxCols {
		return "", api.ErrCols
	}
	if e := checkAll(l); e != api.OK {
		return "", e
	}
	w := raw.NewWriter()
	w.Number(uint64(len(l)), countLong)
	lay(w, l, func(n int64) {
		w.Number(uint64(n), numberLong)
	}, func(s string) {
		w.Number(uint64(len(s)), textLong)
		w.Bytes(s)
	})
	if w.Len() > api.MaxRow {
		return "", api.ErrRow
	}
	return w.All(), api.OK
}

// Values is the values of a row's bytes.
func Values(s string) ([]api.Value, api.Errno) {
	in := raw.NewReader(s)
	l := make([]api.Value, in.Number(countLong))
	for i := range l {
		l[i] = take(in)
	}
	if in.End() != api.OK {
		return nil, api.ErrForm
	}
	// What may not be a row has no bytes, so these are those of none.
	if _, e := Row(l); e != api.OK {
		return nil, api.ErrForm
	}
	return l, api.OK
}

// take takes a value as it stands in a row.
func take(in *raw.Reader) api.Value {
	v := api.Value{Kind: int(in.Number(kindLong))}
	switch v.Kind {
	case api.ValueInt:
		v.N = int64(in.Number(numberLong))
	case api.ValueText:
		v.S = in.Bytes(int(in.Number(textLong)))
	}
	return v
}

// Pick is some of a row's values.
func Pick(row []api.Value, cols []int) ([]api.Value, api.Errno) {
	l := make([]api.Value, len(cols))
	for i, c := range cols {
		if c < 0 || c >= len(row) {
			return nil, api.ErrCols
		}
		l[i] = row[c]
		// A copy: what is handed out shares no memory with what was handed in.
		l[i].S = strings.Clone(row[c].S)
	}
	return l, api.OK
}
