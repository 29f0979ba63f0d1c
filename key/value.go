package key

import (
	"strconv"
	"strings"

	"girder/api"
)

const (
	maxText  = 20  // bytes of a value's text
	noneText = "-" // a value without a value, as a text
	quote    = "'" // ahead of a text's bytes
)

// Check tells whether a value may be.
func Check(v api.Value) api.Errno {
	if v != named(v) || len(v.S) > maxText {
		return api.ErrValue
	}
	return api.OK
}

// named is a value with the fields that its Kind names, and zeros for all others; of no Kind the zero value.
func named(v api.Value) api.Value {
	switch v.Kind {
	case api.ValueInt:
		return api.Value{Kind: v.Kind, N: v.N}
	case api.ValueText:
		return api.Value{Kind: v.Kind, S: v.S}
	}
	return api.Value{}
}

// checkAll is the error of the first value that may not be.
func checkAll(l []api.Value) api.Errno {
	for _, v := range l {
		if e := Check(v); e != api.OK {
			return e
		}
	}
	return api.OK
}

// Text is a value as a text.
func Text(v api.Value) string {
	switch v.Kind {
	case api.ValueInt:
		return strconv.FormatInt(v.N, 10)
	case api.ValueText:
		return quote + v.S
	}
	return noneText
}

// Parse is the value of a text.
func Parse(s string) (api.Value, api.Errno) {
	v := read(s)
	// Numbers may be written in many ways; one of them is their Text.
	if Check(v) != api.OK || Text(v) != s {
		return api.Value{}, api.ErrValue
	}
	return v, api.OK
}

// read is the one value whose Text s may be.
func read(s string) api.Value {
	if s == noneText {
		return api.Value{Kind: api.ValueNone}
	}
	if text, ok := strings.CutPrefix(s, quote); ok {
		// A copy: what is handed out shares no memory with what was handed in.
		return api.Value{Kind: api.ValueText, S: strings.Clone(text)}
	}
	// With an error the number is not the one that s says, so its Text is another one.
	n, _ := strconv.ParseInt(s, 10, 64)
	return api.Value{Kind: api.ValueInt, N: n}
}
