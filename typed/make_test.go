package typed

// Lists of types, trees of them, and typed trees for the tests: many of them right, many wrong in one place or two.

import (
	"math"
	"slices"
	"strconv"
	"strings"

	"trellis/api"
	"trellis/sample"
	"trellis/schema"
)

func ref(name string) api.Ref { return api.Ref{Name: name} }

func null(name string) api.Ref { return api.Ref{Name: name, Null: true} }

func nameType(name string, of api.Ref) api.Type {
	return api.Type{Name: name, Kind: api.TypeName, Of: of}
}

func intType(name string, lo, hi int64) api.Type {
	return api.Type{Name: name, Kind: api.TypeInt, Lo: lo, Hi: hi}
}

func listType(name string, of api.Ref, lo, hi int64) api.Type {
	return api.Type{Name: name, Kind: api.TypeList, Of: of, Lo: lo, Hi: hi}
}

func mapType(name string, of api.Ref, lo, hi int64) api.Type {
	return api.Type{Name: name, Kind: api.TypeMap, Of: of, Lo: lo, Hi: hi}
}

// structType: its fields' keys in one text, a comma between two; those with a ? behind may be left out.
func structType(name, keys string, of ...api.Ref) api.Type {
	t := api.Type{Name: name, Kind: api.TypeStruct}
	for i, r := range of {
		key, maybe := strings.CutSuffix(strings.Split(keys, ",")[i], "?")
		t.Fields = append(t.Fields, api.Field{Name: "f" + strconv.Itoa(i), Key: key, Of: r, Maybe: maybe})
	}
	return t
}

// tupleType: the first so many fields may not be left out.
func tupleType(name string, needed int, of ...api.Ref) api.Type {
	t := structType(name, strings.Repeat(",", len(of)), of...)
	t.Kind = api.TypeTuple
	for i := range t.Fields {
		t.Fields[i].Maybe = i >= needed
	}
	return t
}

// keyedType: its cases' keys in one text, a comma between two.
func keyedType(name, keys string, of ...string) api.Type {
	t := kindedType(name, of...)
	t.Kind = api.TypeKeyed
	for i, key := range strings.Split(keys, ",") {
		t.Cases[i].Key = key
	}
	return t
}

func kindedType(name string, of ...string) api.Type {
	t := api.Type{Name: name, Kind: api.TypeKinded}
	for _, n := range of {
		t.Cases = append(t.Cases, api.Case{Name: n})
	}
	return t
}

func enumType(name string, words ...string) api.Type {
	return api.Type{Name: name, Kind: api.TypeEnum, Words: words}
}

// integer tells a whole number as a tree.
func integer(n int64) api.Value {
	if n < 0 {
		return api.Value{Kind: api.KindInt, Neg: true, N: uint64(-1 - n)}
	}
	return sample.Whole(uint64(n))
}

func float(x float64) api.Value { return sample.Float(math.Float64bits(x)) }

func truth(b bool) api.Value { return api.Value{Kind: api.KindBool, Flag: b} }

func octets(s string) api.Value { return api.Value{Kind: api.KindBytes, Bytes: []byte(s)} }

// dict: keys in one text, a comma between two, so that a key may be empty.
func dict(keys string, items ...api.Value) api.Value {
	return api.Value{Kind: api.KindMap, Keys: strings.Split(keys, ",")[:len(items)], Items: items}
}

// chapter: the types of the chapter's examples.
func chapter() types {
	pair := structType("pair", "l,r", ref("int"), null("pair"))
	return types{
		pair, nameType("id", ref("text")), kindedType("both", "id", "pair"), tupleType("loop", 1, ref("loop")),
		tupleType("point", 2, ref("int"), null("float"), ref("text")), enumType("kind", "ab", "c"), listType("some", ref("kind"), 1, 2),
		keyedType("tag", "k,p", "kind", "pair"), intType("small", -1, 2),
	}
}

// broad: types of all kinds, at most 64, that have few trees or many.
func broad() types {
	return types{
		intType("nought", 0, 0), intType("least", math.MinInt64, math.MinInt64), intType("most", math.MaxInt64, math.MaxInt64), intType("wide", math.MinInt64, math.MaxInt64), intType("small", -1, 2),
		enumType("kind", "ab", "c"), enumType("blank", "", "l", "\u00e4"),
		listType("empty", ref("int"), 0, 0), listType("some", ref("kind"), 1, 2), listType("nulls", null("small"), 2, 2), listType("rows", ref("rows"), 0, math.MaxInt64), listType("all", ref("any"), 0, 3),
		mapType("none", ref("int"), 0, 0), mapType("dict", null("small"), 1, 2), mapType("dicts", ref("dicts"), 0, math.MaxInt64), mapType("texts", ref("text"), 2, 3),
		structType("unit", ""), structType("pair", "l,r", ref("int"), null("pair")), structType("four", "l?,k,r?,", ref("text"), null("small"), null("int"), ref("bool")), structType("odd", "bb,a,b?", ref("small"), ref("kind"), ref("odd")), structType("free", "l?,r?", ref("any"), ref("free")),
		tupleType("nil", 0), tupleType("point", 2, ref("int"), null("float"), ref("text")), tupleType("mild", 1, null("int"), null("int"), ref("int")), tupleType("row", 0, ref("kind"), null("row")), tupleType("couple", 2, ref("any"), ref("single")),
		keyedType("tag", "k,l", "kind", "pair"), keyedType("maybe", ",l", "nid", "maybe"), keyedType("one", "r", "any"),
		kindedType("both", "id", "pair"), kindedType("each", "small", "bool", "single", "kind", "bytes", "link", "row", "odd"), kindedType("nest", "rows", "float", "dict"), kindedType("loose", "all", "texts", "id"),
		nameType("id", ref("text")), nameType("nid", null("id")), nameType("nnid", ref("nid")), nameType("what", ref("any")), nameType("void", ref("null")), nameType("other", ref("each")), nameType("opt", null("both")), nameType("slim", ref("single")), nameType("ns", null("slim")),
		tupleType("loop", 1, ref("loop")), listType("never", ref("loop"), 1, 2), keyedType("hollow", "k", "hollow"), kindedType("void2", "never", "hollow"), nameType("still", null("loop")), structType("gap", "k,l?", ref("int"), ref("loop")),
	}
}

// rolledTypes tells n types t0, t1 and so on, of any kinds, that speak of one another, and may be.
func rolledTypes(d *sample.Dice, n int) types {
	for {
		var p types
		for i := range n {
			p = append(p, rolledType(d, "t"+strconv.Itoa(i), n))
		}
		if e, _ := schema.Check(p); e == api.OK {
			return p
		}
	}
}

func rolledType(d *sample.Dice, name string, n int) api.Type {
	var refs []api.Ref
	var names []string
	for range 1 + d.Below(3) {
		r := ref(plainOwn[d.Below(len(plainOwn))])
		if d.Below(3) > 0 {
			r = api.Ref{Name: "t" + strconv.Itoa(d.Below(n)), Null: d.Below(4) == 0}
		}
		refs, names = append(refs, r), append(names, r.Name)
	}
	lo := int64(d.Below(2))
	keys := []string{"a,bb,c", "bb,b,", "b?,a,aa?", "aa?,b?,a?"}[d.Below(4)]
	switch 1 + d.Below(9) {
	case api.TypeName:
		return nameType(name, refs[0])
	case api.TypeInt:
		return intType(name, lo-1, int64(d.Below(3)))
	case api.TypeList:
		return listType(name, refs[0], lo, lo+int64(d.Below(3)))
	case api.TypeMap:
		return mapType(name, refs[0], lo, lo+int64(d.Below(3)))
	case api.TypeStruct:
		return structType(name, keys, refs...)
	case api.TypeTuple:
		return tupleType(name, d.Below(len(refs)+1), refs...)
	case api.TypeKeyed:
		return keyedType(name, strings.Join(strings.Split("a,,bb", ",")[:len(names)], ","), names...)
	case api.TypeKinded:
		return kindedType(name, names...)
	}
	return enumType(name, []string{"ab", "c", ""}[d.Below(2):]...)
}

// tree tells a tree of a type, or nearly one where the type has none.
func (p types) tree(d *sample.Dice, of api.Ref, fuel int) api.Value {
	t, takesNull := p.base(of.Name)
	if (takesNull || of.Null) && (fuel <= 0 || d.Below(4) == 0) || fuel < -3 {
		return sample.Null()
	}
	span := func() int { // how many items beyond the least
		if fuel <= 0 {
			return 0
		}
		return d.Below(int(min(t.Hi-t.Lo, 3)) + 1)
	}
	v := api.Value{Kind: api.KindList}
	switch t.Kind {
	case api.TypeInt:
		n := t.Lo + int64(d.Below(3))
		if d.Below(2) == 0 || n > t.Hi || n < t.Lo {
			return integer([]int64{t.Lo, t.Hi}[d.Below(2)])
		}
		return integer(n)
	case api.TypeEnum:
		return sample.Text(t.Words[d.Below(len(t.Words))])
	case api.TypeList:
		for range int(t.Lo) + span() {
			v.Items = append(v.Items, p.tree(d, t.Of, fuel-1))
		}
	case api.TypeMap:
		v = api.Value{Kind: api.KindMap, Keys: d.Keys(int(t.Lo) + span())}
		for range v.Keys {
			v.Items = append(v.Items, p.tree(d, t.Of, fuel-1))
		}
	case api.TypeStruct, api.TypeTuple:
		return p.fieldsTree(d, t, fuel)
	case api.TypeKeyed, api.TypeKinded:
		c := t.Cases[d.Below(len(t.Cases))]
		if t.Kind == api.TypeKinded {
			return p.tree(d, ref(c.Name), fuel-1)
		}
		return api.Value{Kind: api.KindMap, Keys: []string{c.Key}, Items: []api.Value{p.tree(d, ref(c.Name), fuel-1)}}
	default:
		return ownTree(d, t.Name)
	}
	return v
}

func (p types) fieldsTree(d *sample.Dice, t api.Type, fuel int) api.Value {
	v := api.Value{Kind: api.KindList}
	for _, f := range t.Fields {
		if f.Maybe && (fuel <= 0 || d.Below(2) == 0) {
			if t.Kind == api.TypeTuple {
				break
			}
			continue
		}
		v.Items = append(v.Items, p.tree(d, f.Of, fuel-1))
		v.Keys = append(v.Keys, f.Key)
	}
	if t.Kind == api.TypeTuple {
		v.Keys = nil
		return v
	}
	v.Kind = api.KindMap
	return v
}

// ownTree tells a tree of a built-in type.
func ownTree(d *sample.Dice, name string) api.Value {
	if name == "any" {
		return d.Tree(2)
	}
	if name == "single" {
		return float([]float64{0, math.Copysign(0, -1), 0.5, 1 << 40, math.MaxFloat32, math.SmallestNonzeroFloat32}[d.Below(6)])
	}
	for {
		leaves := sample.Leaves()
		if v := leaves[d.Below(len(leaves))]; v.Kind == plainKinds[name] {
			return v
		}
	}
}

// bent tells a tree again, one thing in it made another; it stays a tree.
func (p types) bent(d *sample.Dice, v api.Value) api.Value {
	v = sample.Again(v)
	at := &v
	for len(at.Items) > 0 && d.Below(4) > 0 {
		at = &at.Items[d.Below(len(at.Items))]
	}
	keys := append(strings.Split("a,bb,,b,l,r,k,zz", ","), d.Keys(2)...)
	key, n := keys[d.Below(len(keys))], len(at.Items)
	switch d.Below(8) {
	case 0:
		*at = sample.Null()
	case 1:
		*at = d.Tree(1)
	case 2:
		*at = p.tree(d, ref(p[d.Below(len(p))].Name), 1)
	case 3:
		if at.Kind == api.KindInt {
			at.N += uint64(d.Below(3)) - 1
			at.Neg = d.Below(4) == 0 != at.Neg
		}
	case 4:
		if at.Kind == api.KindMap && !slices.Contains(at.Keys, key) {
			at.Keys, at.Items = append(at.Keys, key), append(at.Items, sample.Whole(1))
		}
	case 5:
		if at.Kind == api.KindMap && n > 0 && !slices.Contains(at.Keys, key) {
			at.Keys[d.Below(n)] = key
		}
	case 6:
		if at.Kind == api.KindList {
			at.Items = append(at.Items, d.Tree(1))
		}
	case 7:
		if n > 0 {
			at.Items = at.Items[:n-1]
			at.Keys = at.Keys[:max(len(at.Keys), 1)-1]
		}
	}
	return v
}

// againTyped tells a typed tree in new memory, its lists not nil.
func againTyped(x api.Typed) api.Typed {
	x.Value = sample.Again(x.Value)
	x.Keys = append([]string{}, x.Keys...)
	items := []api.Typed{}
	for _, y := range x.Items {
		items = append(items, againTyped(y))
	}
	x.Items = items
	return x
}

// bentTyped tells a typed tree again, one thing in it made another.
func (p types) bentTyped(d *sample.Dice, x api.Typed) api.Typed {
	x = againTyped(x)
	at := &x
	for len(at.Items) > 0 && d.Below(4) > 0 {
		at = &at.Items[d.Below(len(at.Items))]
	}
	names := append(slices.Clone(plainOwn), "", "nope")
	for _, t := range p {
		names = append(names, t.Name)
	}
	name, n, k := names[d.Below(len(names))], len(at.Items), len(at.Keys)
	switch d.Below(15) {
	case 0:
		at.Name = name
	case 1:
		at.Null = !at.Null
	case 2:
		at.None = !at.None
	case 3:
		at.Case += d.Below(5) - 2
	case 4:
		at.Value = d.Touched(at.Value)
	case 5:
		at.Value = d.Mixed(at.Value)
	case 6:
		at.Value = d.Tree(2)
	case 7:
		at.Value = p.bent(d, at.Value)
	case 8:
		at.Keys = append(at.Keys, strings.Split("a,bb,,\xff,zzzzzz", ",")[d.Below(5)])
	case 9:
		if k > 1 {
			i, j := d.Below(k), d.Below(k)
			at.Keys[i], at.Keys[j] = at.Keys[j], at.Keys[i]
		}
	case 10:
		if n > 1 {
			i, j := d.Below(n), d.Below(n)
			at.Items[i], at.Items[j] = at.Items[j], at.Items[i]
		}
	case 11:
		at.Items = append(at.Items, []api.Typed{{}, {None: true}, {Name: "int", Value: sample.Whole(0)}, {Name: name, Null: true}}[d.Below(4)])
	case 12:
		at.Items = at.Items[:max(n, 1)-1]
		at.Keys = at.Keys[:max(k, 1)-1]
	case 13:
		*at = []api.Typed{{}, {None: true}, {Name: at.Name, Null: true}, {Name: at.Name}}[d.Below(4)]
	case 14:
		other := p[d.Below(len(p))].Name
		*at, _, _ = p.read(other, p.tree(d, ref(other), 1))
	}
	return x
}
