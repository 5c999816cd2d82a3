package typed

import (
	"slices"
	"strconv"

	"trellis/api"
	"trellis/schema"
)

// told tells a tree, whose maps' entries stand in keys' order, by a name that the table has, and that it is of that type; else the way to the first place where it is not. The typed tree keeps the tree's memory.
func told(t *schema.Table, name string, v api.Value) (api.Typed, bool, []string) {
	r := reader{book: opened(t)}
	x, is := r.read(api.Ref{Name: name}, v)
	slices.Reverse(r.back)
	return x, is, r.back
}

// reader reads one tree.
type reader struct {
	book book
	back []string // the way from the place where the tree is not of its type to the top
}

// asked is a value that is read by what a type takes.
type asked struct {
	reader *reader
	by     taker
	value  api.Value
	told   api.Typed
}

// read tells a value by a reference, if it is of that type.
func (r *reader) read(of api.Ref, v api.Value) (api.Typed, bool) {
	e := r.book.find(of.Name)
	if v.Kind == api.KindNull && (of.Null || e.null) {
		return api.Typed{Name: of.Name, Null: true}, true
	}
	a := &asked{reader: r, by: e.by, value: v}
	// The first place where a tree is not of its type is told, so a value's own shape is looked at ahead of its items.
	for _, look := range []func(*asked) bool{(*asked).shape, (*asked).items} {
		if !look(a) {
			return api.Typed{}, false
		}
	}
	a.told.Name = of.Name
	return a.told, true
}

// shape tells whether the value has the type's own shape.
func (a *asked) shape() bool {
	kind := a.by.kind()
	return (kind == api.KindNone || kind == a.value.Kind) && a.by.shape(a.value)
}

// items tells whether all that stands in the value is of the types that are asked for there, and keeps what is told of it.
func (a *asked) items() bool {
	var is bool
	a.told, is = a.by.read(a.reader, a.value)
	return is
}

// item reads one item of a list or a map.
func (r *reader) item(v api.Value, at int, of api.Ref) (api.Typed, bool) {
	x, is := r.read(of, v.Items[at])
	if !is {
		r.back = append(r.back, step(v, at))
	}
	return x, is
}

// step tells the part of a way that leads to an item.
func step(v api.Value, at int) string {
	if v.Kind == api.KindMap {
		return v.Keys[at]
	}
	return strconv.Itoa(at)
}
