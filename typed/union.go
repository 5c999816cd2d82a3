package typed

import "trellis/api"

// keyed takes maps of one entry, whose key tells the item's type.
type keyed struct {
	cases  []api.Case
	places map[string]int // by their keys
}

func (keyed) kind() int { return api.KindMap }

func (k keyed) shape(v api.Value) bool {
	if len(v.Keys) != 1 {
		return false
	}
	_, is := k.places[v.Keys[0]]
	return is
}

func (k keyed) read(r *reader, v api.Value) (api.Typed, bool) {
	at := k.places[v.Keys[0]]
	y, is := r.item(v, 0, api.Ref{Name: k.cases[at].Name})
	return api.Typed{Case: at, Items: []api.Typed{y}}, is
}

func (k keyed) write(b book, x api.Typed, about int) (api.Value, bool) {
	if !has(k.cases, x.Case) || len(x.Items) != 1 {
		return api.Value{}, false
	}
	c := k.cases[x.Case]
	item, is := b.tree(c.Name, x.Items[0], about+1)
	return api.Value{Kind: api.KindMap, Keys: []string{c.Key}, Items: []api.Value{item}}, is
}

// kinded takes what its cases take; the tree's kind tells which one.
type kinded struct {
	cases  []api.Case
	counts [api.KindMap + 1]int // by the kinds: how many cases there are up to the kind's own; 0, if it is none's
}

func (kinded) kind() int { return api.KindNone }

func (k kinded) shape(v api.Value) bool { return k.counts[v.Kind] > 0 }

func (k kinded) read(r *reader, v api.Value) (api.Typed, bool) {
	at := k.counts[v.Kind] - 1
	y, is := r.read(api.Ref{Name: k.cases[at].Name}, v)
	return api.Typed{Case: at, Items: []api.Typed{y}}, is
}

func (k kinded) write(b book, x api.Typed, about int) (api.Value, bool) {
	if !has(k.cases, x.Case) || len(x.Items) != 1 {
		return api.Value{}, false
	}
	return b.tree(k.cases[x.Case].Name, x.Items[0], about)
}
