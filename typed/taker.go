package typed

import (
	"math"

	"trellis/api"
	"trellis/number"
)

// taker is what a kind of type takes.
type taker interface {
	// kind tells the kind of its trees; none, if they are of several.
	kind() int
	// shape tells whether a tree of that kind has the type's own shape, whatever its items are.
	shape(v api.Value) bool
	// read tells the typed tree of a tree of that shape, but for the name; or that one of the items is not of its type.
	read(r *reader, v api.Value) (api.Typed, bool)
	// write tells the one tree that may be told as this typed one, which stands in so many lists and maps; or that there is none. Whether it is told so, it does not ask.
	write(b book, x api.Typed, about int) (api.Value, bool)
}

// plain takes the trees of one kind as they stand; of all kinds, if it is KindNone.
type plain int

func (p plain) kind() int { return int(p) }

func (plain) shape(api.Value) bool { return true }

func (plain) read(_ *reader, v api.Value) (api.Typed, bool) { return api.Typed{Value: v}, true }

func (plain) write(_ book, x api.Typed, _ int) (api.Value, bool) { return x.Value, true }

// single takes the floats that have 32 bits, too.
type single struct{ plain }

func (single) shape(v api.Value) bool { return number.Exact32(math.Float64frombits(v.Bits)) }

// whole takes the whole numbers of a range.
type whole struct {
	plain
	lo, hi int64
}

func (w whole) shape(v api.Value) bool {
	// What is no int64 is in no range.
	if v.N > math.MaxInt64 {
		return false
	}
	n := int64(v.N)
	if v.Neg {
		n = -1 - n
	}
	return w.lo <= n && n <= w.hi
}

// enum takes some texts.
type enum struct {
	words  []string
	places map[string]int
}

func (enum) kind() int { return api.KindText }

func (e enum) shape(v api.Value) bool {
	_, is := e.places[v.Text]
	return is
}

func (e enum) read(_ *reader, v api.Value) (api.Typed, bool) {
	return api.Typed{Case: e.places[v.Text]}, true
}

func (e enum) write(_ book, x api.Typed, _ int) (api.Value, bool) {
	if !has(e.words, x.Case) {
		return api.Value{}, false
	}
	return api.Value{Kind: api.KindText, Text: e.words[x.Case]}, true
}

// has tells whether a list has such a place.
func has[T any](list []T, at int) bool { return at >= 0 && at < len(list) }
