package typed

import "trellis/api"

// many takes lists, or maps, of some length, with items of one type.
type many struct {
	nest   int
	of     api.Ref
	lo, hi int64
}

func (m many) kind() int { return m.nest }

func (m many) shape(v api.Value) bool {
	n := int64(len(v.Items))
	return m.lo <= n && n <= m.hi
}

func (m many) read(r *reader, v api.Value) (api.Typed, bool) {
	x := api.Typed{Keys: v.Keys, Items: make([]api.Typed, 0, len(v.Items))}
	for at := range v.Items {
		y, is := r.item(v, at, m.of)
		if !is {
			return api.Typed{}, false
		}
		x.Items = append(x.Items, y)
	}
	return x, true
}

func (m many) write(b book, x api.Typed, about int) (api.Value, bool) {
	v := api.Value{Kind: m.nest, Keys: x.Keys, Items: make([]api.Value, 0, len(x.Items))}
	for _, y := range x.Items {
		item, is := b.tree(m.of.Name, y, about+1)
		if !is {
			return api.Value{}, false
		}
		v.Items = append(v.Items, item)
	}
	return v, true
}

// fields takes a struct's maps, or a tuple's lists.
type fields struct {
	nest   int
	list   []api.Field
	needed int            // so many of them may not be left out
	places map[string]int // by their keys
}

func (f fields) kind() int { return f.nest }

func (f fields) shape(v api.Value) bool {
	needed := f.needed
	for at := range v.Items {
		place, is := f.place(v, at)
		if !is {
			return false
		}
		if !f.list[place].Maybe {
			needed--
		}
	}
	return needed == 0
}

// place tells which field an item is, if any.
func (f fields) place(v api.Value, at int) (int, bool) {
	if f.nest == api.KindList {
		return at, has(f.list, at)
	}
	place, is := f.places[v.Keys[at]]
	return place, is
}

func (f fields) read(r *reader, v api.Value) (api.Typed, bool) {
	var x api.Typed
	for range f.list {
		x.Items = append(x.Items, api.Typed{None: true})
	}
	for at := range v.Items {
		place, _ := f.place(v, at)
		y, is := r.item(v, at, f.list[place].Of)
		if !is {
			return api.Typed{}, false
		}
		x.Items[place] = y
	}
	return x, true
}

func (f fields) write(b book, x api.Typed, about int) (api.Value, bool) {
	if len(x.Items) != len(f.list) {
		return api.Value{}, false
	}
	v := api.Value{Kind: f.nest}
	for at, y := range x.Items {
		if y.None {
			continue
		}
		item, is := b.tree(f.list[at].Of.Name, y, about+1)
		if !is {
			return api.Value{}, false
		}
		v.Items = append(v.Items, item)
		if f.nest == api.KindMap {
			v.Keys = append(v.Keys, f.list[at].Key)
		}
	}
	return v, true
}
