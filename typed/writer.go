package typed

import (
	"bytes"
	"slices"

	"trellis/api"
)

// tree tells the one tree that may be told by a name as this typed one, which stands in so many lists and maps; or that there is none. It may be no tree at all, and keeps the typed one's memory.
func (b book) tree(name string, x api.Typed, about int) (api.Value, bool) {
	// A typed tree may be nested without end.
	if about > api.MaxDepth {
		return api.Value{}, false
	}
	if x.Null {
		return api.Value{Kind: api.KindNull}, true
	}
	return b.find(name).by.write(b, x, about)
}

// same tells whether two typed trees are the same, field by field.
func same(x, y api.Typed) bool {
	return x.Name == y.Name && x.Null == y.Null && x.None == y.None && x.Case == y.Case &&
		sameTree(x.Value, y.Value) && slices.Equal(x.Keys, y.Keys) && slices.EqualFunc(x.Items, y.Items, same)
}

// sameTree tells whether two trees are the same, field by field: value.Equal would take a map's entries in any order.
func sameTree(v, w api.Value) bool {
	return v.Kind == w.Kind && v.Flag == w.Flag && v.Neg == w.Neg && v.N == w.N &&
		v.Bits == w.Bits && v.Text == w.Text && v.Link == w.Link && bytes.Equal(v.Bytes, w.Bytes) &&
		slices.Equal(v.Keys, w.Keys) && slices.EqualFunc(v.Items, w.Items, sameTree)
}
