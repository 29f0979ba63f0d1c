package key

import (
	"cmp"
	"slices"

	"girder/api"
)

// Compare tells which row of values stands first.
func Compare(a, b []api.Value) int {
	return slices.CompareFunc(a, b, func(x, y api.Value) int {
		return cmp.Or(cmp.Compare(x.Kind, y.Kind), cmp.Compare(x.N, y.N), cmp.Compare(x.S, y.S))
	})
}

// Entries tells which entry stands first.
func Entries(a, b api.Entry) int {
	return cmp.Or(cmp.Compare(a.Key, b.Key), cmp.Compare(a.RID.Page, b.RID.Page), cmp.Compare(a.RID.Slot, b.RID.Slot))
}
