package typed

// The chapter read a second time, plainly: all places where a tree is not of a type are gathered, a struct's field by field, and the first one is picked by the order of the tree's form; and a typed tree is looked at row by row of the table for what it may have.

import (
	"math"
	"math/big"
	"slices"
	"sort"
	"strconv"
	"strings"
	"unicode/utf8"

	"trellis/api"
	"trellis/value"
)

// types is a list of types that may be.
type types []api.Type

var plainOwn = strings.Fields("any null bool int float single text bytes link")

var plainKinds = map[string]int{
	"null": api.KindNull, "bool": api.KindBool, "int": api.KindInt, "float": api.KindFloat, "single": api.KindFloat,
	"text": api.KindText, "bytes": api.KindBytes, "link": api.KindLink,
}

func (p types) find(name string) (api.Type, bool) {
	for _, t := range p {
		if t.Name == name {
			return t, true
		}
	}
	if slices.Contains(plainOwn, name) {
		return api.Type{Name: name}, true
	}
	return api.Type{}, false
}

// base: what a name comes to, and whether a TypeName on the way has an Of that is Null.
func (p types) base(name string) (api.Type, bool) {
	t, _ := p.find(name)
	if t.Kind != api.TypeName {
		return t, false
	}
	end, null := p.base(t.Of.Name)
	return end, null || t.Of.Null
}

// kinds: those that a name takes; it takes no null but as a type's own.
func (p types) kinds(name string) []int {
	t, _ := p.base(name)
	switch t.Kind {
	case api.TypeInt:
		return []int{api.KindInt}
	case api.TypeList, api.TypeTuple:
		return []int{api.KindList}
	case api.TypeMap, api.TypeStruct, api.TypeKeyed:
		return []int{api.KindMap}
	case api.TypeEnum:
		return []int{api.KindText}
	}
	return []int{plainKinds[t.Name]}
}

// exact: the whole number that a tree is.
func exact(v api.Value) *big.Int {
	n := new(big.Int).SetUint64(v.N)
	if v.Neg {
		n.Not(n)
	}
	return n
}

func between(n *big.Int, lo, hi int64) bool {
	return n.Cmp(big.NewInt(lo)) >= 0 && n.Cmp(big.NewInt(hi)) <= 0
}

// field: which field of a struct has this key; -1, if none.
func field(t api.Type, key string) int {
	return slices.IndexFunc(t.Fields, func(f api.Field) bool { return f.Key == key })
}

func caseOf(t api.Type, key string) int {
	return slices.IndexFunc(t.Cases, func(c api.Case) bool { return c.Key == key })
}

// caseBy: which case of a kinded type has trees of this kind.
func (p types) caseBy(t api.Type, kind int) int {
	return slices.IndexFunc(t.Cases, func(c api.Case) bool { return slices.Contains(p.kinds(c.Name), kind) })
}

// shaped: whether a tree has a type's own shape.
func (p types) shaped(t api.Type, v api.Value) bool {
	list, dict := v.Kind == api.KindList, v.Kind == api.KindMap
	n := big.NewInt(int64(len(v.Items)))
	switch t.Kind {
	case api.TypeInt:
		return v.Kind == api.KindInt && between(exact(v), t.Lo, t.Hi)
	case api.TypeEnum:
		return v.Kind == api.KindText && slices.Contains(t.Words, v.Text)
	case api.TypeList:
		return list && between(n, t.Lo, t.Hi)
	case api.TypeMap:
		return dict && between(n, t.Lo, t.Hi)
	case api.TypeStruct:
		for _, key := range v.Keys {
			if field(t, key) < 0 {
				return false
			}
		}
		for _, f := range t.Fields {
			if !f.Maybe && !slices.Contains(v.Keys, f.Key) {
				return false
			}
		}
		return dict
	case api.TypeTuple:
		for i, f := range t.Fields {
			if !f.Maybe && i >= len(v.Items) {
				return false
			}
		}
		return list && len(v.Items) <= len(t.Fields)
	case api.TypeKeyed:
		return dict && len(v.Items) == 1 && caseOf(t, v.Keys[0]) >= 0
	case api.TypeKinded:
		return p.caseBy(t, v.Kind) >= 0
	}
	switch t.Name {
	case "any":
		return true
	case "single":
		x := math.Float64frombits(v.Bits)
		return v.Kind == api.KindFloat && math.Float64bits(float64(float32(x))) == v.Bits
	}
	return v.Kind == plainKinds[t.Name]
}

// part: an item that a type asks for by a reference: its place in the typed tree's Items, and in the tree's; -1: the tree itself.
type part struct {
	of     api.Ref
	at, in int
}

// parts: those of a tree that has the type's own shape, fields and cases in the type's order.
func (p types) parts(t api.Type, v api.Value) (list []part) {
	switch t.Kind {
	case api.TypeList:
		for i := range v.Items {
			list = append(list, part{t.Of, i, i})
		}
	case api.TypeMap:
		for i, key := range sortedKeys(v.Keys) {
			list = append(list, part{t.Of, i, slices.Index(v.Keys, key)})
		}
	case api.TypeStruct:
		for i, f := range t.Fields {
			if in := slices.Index(v.Keys, f.Key); in >= 0 {
				list = append(list, part{f.Of, i, in})
			}
		}
	case api.TypeTuple:
		for i := range v.Items {
			list = append(list, part{t.Fields[i].Of, i, i})
		}
	case api.TypeKeyed:
		list = append(list, part{api.Ref{Name: t.Cases[caseOf(t, v.Keys[0])].Name}, 0, 0})
	case api.TypeKinded:
		list = append(list, part{api.Ref{Name: t.Cases[p.caseBy(t, v.Kind)].Name}, 0, -1})
	}
	return list
}

func sortedKeys(keys []string) []string {
	keys = slices.Clone(keys)
	sort.Slice(keys, func(i, j int) bool {
		if len(keys[i]) != len(keys[j]) {
			return len(keys[i]) < len(keys[j])
		}
		return keys[i] < keys[j]
	})
	return keys
}

// ways: of all values of a tree, in the order of its form.
func ways(way []string, v api.Value) [][]string {
	all := [][]string{slices.Clone(way)}
	if v.Kind == api.KindMap {
		for _, key := range sortedKeys(v.Keys) {
			all = append(all, ways(append(slices.Clone(way), key), v.Items[slices.Index(v.Keys, key)])...)
		}
		return all
	}
	for i, item := range v.Items {
		all = append(all, ways(append(slices.Clone(way), strconv.Itoa(i)), item)...)
	}
	return all
}

// wrong: the ways to all places where a tree is not of a type, of those that a type asks for.
func (p types) wrong(way []string, of api.Ref, v api.Value) (all [][]string) {
	t, null := p.base(of.Name)
	if v.Kind == api.KindNull && (null || of.Null) {
		return nil
	}
	if !p.shaped(t, v) {
		return [][]string{slices.Clone(way)}
	}
	for _, q := range p.parts(t, v) {
		switch {
		case q.in < 0:
			all = append(all, p.wrong(way, q.of, v)...)
		case v.Kind == api.KindMap:
			all = append(all, p.wrong(append(slices.Clone(way), v.Keys[q.in]), q.of, v.Items[q.in])...)
		default:
			all = append(all, p.wrong(append(slices.Clone(way), strconv.Itoa(q.in)), q.of, v.Items[q.in])...)
		}
	}
	return all
}

// first: the first of these ways in the order of a tree's form, or of none false.
func first(v api.Value, wrong [][]string) ([]string, bool) {
	for _, way := range ways(nil, v) {
		if slices.ContainsFunc(wrong, func(w []string) bool { return slices.Equal(w, way) }) {
			return way, true
		}
	}
	return nil, false
}

// typedOf: the typed tree of a tree that is of the type.
func (p types) typedOf(of api.Ref, v api.Value) api.Typed {
	t, null := p.base(of.Name)
	if v.Kind == api.KindNull && (null || of.Null) {
		return api.Typed{Name: of.Name, Null: true}
	}
	x := api.Typed{Name: of.Name}
	parts := p.parts(t, v)
	for range max(len(parts), len(t.Fields)) {
		x.Items = append(x.Items, api.Typed{None: true})
	}
	for _, q := range parts {
		item := v
		if q.in >= 0 {
			item = v.Items[q.in]
		}
		x.Items[q.at] = p.typedOf(q.of, item)
	}
	switch t.Kind {
	case api.TypeNone, api.TypeInt:
		x.Value = value.Sorted(v)
	case api.TypeEnum:
		x.Case = slices.Index(t.Words, v.Text)
	case api.TypeMap:
		x.Keys = sortedKeys(v.Keys)
	case api.TypeKeyed:
		x.Case = caseOf(t, v.Keys[0])
	case api.TypeKinded:
		x.Case = p.caseBy(t, v.Kind)
	}
	return x
}

// read: what Read tells.
func (p types) read(name string, v api.Value) (api.Typed, api.Errno, []string) {
	if _, is := p.find(name); !is {
		return api.Typed{}, api.ErrTypedName, nil
	}
	if value.Check(v) != api.OK {
		return api.Typed{}, api.ErrTypedForm, nil
	}
	if way, is := first(v, p.wrong(nil, api.Ref{Name: name}, v)); is {
		return api.Typed{}, api.ErrTypedShape, way
	}
	return p.typedOf(api.Ref{Name: name}, v), api.OK, nil
}

// bare: whether all fields are zero but the name and these.
func bare(x api.Typed, but string) bool {
	zero := api.Value{}
	v := x.Value
	none := v.Kind == zero.Kind && !v.Flag && !v.Neg && v.N == 0 && v.Bits == 0 && v.Text == "" && v.Link == zero.Link && len(v.Bytes)+len(v.Keys)+len(v.Items) == 0
	for name, is := range map[string]bool{
		"Null": !x.Null, "None": !x.None, "Case": x.Case == 0, "Value": none, "Keys": len(x.Keys) == 0, "Items": len(x.Items) == 0,
	} {
		if !is && !slices.Contains(strings.Fields(but), name) {
			return false
		}
	}
	return true
}

// rising: whether each map's entries stand in keys' order.
func rising(v api.Value) bool {
	return slices.Equal(v.Keys, sortedKeys(v.Keys)) && !slices.ContainsFunc(v.Items, func(item api.Value) bool { return !rising(item) })
}

// treeOf: the tree of a typed one in so many lists and maps, if it may be.
func (p types) treeOf(of api.Ref, x api.Typed, about int) (api.Value, bool) {
	t, null := p.base(of.Name)
	null = null || of.Null
	if about > 1024 || x.Name != of.Name || x.None {
		return api.Value{}, false
	}
	if x.Null {
		return api.Value{Kind: api.KindNull}, null && bare(x, "Null")
	}
	switch t.Kind {
	case api.TypeNone, api.TypeInt:
		v := x.Value
		is := bare(x, "Value") && value.Check(v) == api.OK && rising(v) && p.shaped(t, v) && value.Depth(v)+about <= 1024
		return v, is && !(null && v.Kind == api.KindNull)
	case api.TypeEnum:
		if !bare(x, "Case") || x.Case < 0 || x.Case >= len(t.Words) {
			return api.Value{}, false
		}
		return api.Value{Kind: api.KindText, Text: t.Words[x.Case]}, true
	case api.TypeKeyed, api.TypeKinded:
		return p.caseTree(t, x, about)
	case api.TypeList, api.TypeMap:
		return p.rowTree(t, x, about)
	}
	return p.fieldTree(t, x, about)
}

func (p types) caseTree(t api.Type, x api.Typed, about int) (api.Value, bool) {
	if !bare(x, "Case Items") || x.Case < 0 || x.Case >= len(t.Cases) || len(x.Items) != 1 {
		return api.Value{}, false
	}
	c := t.Cases[x.Case]
	if t.Kind == api.TypeKinded {
		return p.treeOf(api.Ref{Name: c.Name}, x.Items[0], about)
	}
	item, is := p.treeOf(api.Ref{Name: c.Name}, x.Items[0], about+1)
	return api.Value{Kind: api.KindMap, Keys: []string{c.Key}, Items: []api.Value{item}}, is && about < 1024
}

func (p types) rowTree(t api.Type, x api.Typed, about int) (api.Value, bool) {
	v := api.Value{Kind: api.KindList}
	is := bare(x, "Items")
	if t.Kind == api.TypeMap {
		v = api.Value{Kind: api.KindMap, Keys: slices.Clone(x.Keys)}
		is = bare(x, "Keys Items") && len(x.Keys) == len(x.Items)
		for i, key := range x.Keys {
			is = is && utf8.ValidString(key) && !slices.Contains(x.Keys[:i], key)
		}
		is = is && slices.Equal(x.Keys, sortedKeys(x.Keys))
	}
	for _, y := range x.Items {
		item, has := p.treeOf(t.Of, y, about+1)
		if !has {
			return api.Value{}, false
		}
		v.Items = append(v.Items, item)
	}
	return v, is && about < 1024 && int64(len(x.Items)) >= t.Lo && int64(len(x.Items)) <= t.Hi
}

func (p types) fieldTree(t api.Type, x api.Typed, about int) (api.Value, bool) {
	if !bare(x, "Items") || len(x.Items) != len(t.Fields) || about >= 1024 {
		return api.Value{}, false
	}
	items := map[string]api.Value{}
	var keys []string
	v, ended := api.Value{Kind: api.KindList}, false
	for i, f := range t.Fields {
		y := x.Items[i]
		if y.None {
			ended = true
			if !f.Maybe || y.Name != "" || !bare(y, "None") {
				return api.Value{}, false
			}
			continue
		}
		item, is := p.treeOf(f.Of, y, about+1)
		if !is || ended && t.Kind == api.TypeTuple {
			return api.Value{}, false
		}
		v.Items = append(v.Items, item)
		keys, items[f.Key] = append(keys, f.Key), item
	}
	if t.Kind == api.TypeTuple {
		return v, true
	}
	v = api.Value{Kind: api.KindMap, Keys: sortedKeys(keys)}
	for _, key := range v.Keys {
		v.Items = append(v.Items, items[key])
	}
	return v, true
}

// write: what Write tells.
func (p types) write(name string, x api.Typed) (api.Value, api.Errno) {
	if _, is := p.find(name); !is {
		return api.Value{}, api.ErrTypedName
	}
	v, is := p.treeOf(api.Ref{Name: name}, x, 0)
	if !is {
		return api.Value{}, api.ErrTypedForm
	}
	return v, api.OK
}
