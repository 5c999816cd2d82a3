package schema

// Lists of types for the tests: most of them nearly right, many wrong in one place or two.

import (
	"slices"
	"strconv"
	"strings"

	"trellis/api"
	"trellis/sample"
)

func ref(name string) api.Ref { return api.Ref{Name: name} }

func null(name string) api.Ref { return api.Ref{Name: name, Null: true} }

func rename(name string, of api.Ref) api.Type {
	return api.Type{Name: name, Kind: api.TypeName, Of: of}
}

func whole(name string, lo, hi int64) api.Type {
	return api.Type{Name: name, Kind: api.TypeInt, Lo: lo, Hi: hi}
}

func list(name string, of api.Ref, lo, hi int64) api.Type {
	return api.Type{Name: name, Kind: api.TypeList, Of: of, Lo: lo, Hi: hi}
}

func mapping(name string, of api.Ref, lo, hi int64) api.Type {
	return api.Type{Name: name, Kind: api.TypeMap, Of: of, Lo: lo, Hi: hi}
}

// record: a struct, its fields' keys are their names.
func record(name string, of ...api.Ref) api.Type {
	t := api.Type{Name: name, Kind: api.TypeStruct}
	for i, r := range of {
		t.Fields = append(t.Fields, api.Field{Name: "f" + strconv.Itoa(i), Key: "f" + strconv.Itoa(i), Of: r})
	}
	return t
}

func tuple(name string, of ...api.Ref) api.Type {
	t := record(name, of...)
	t.Kind = api.TypeTuple
	for i := range t.Fields {
		t.Fields[i].Key = ""
	}
	return t
}

func kinded(name string, of ...string) api.Type {
	t := api.Type{Name: name, Kind: api.TypeKinded}
	for _, n := range of {
		t.Cases = append(t.Cases, api.Case{Name: n})
	}
	return t
}

// keyed: its cases' keys are k0, k1 and so on.
func keyed(name string, of ...string) api.Type {
	t := kinded(name, of...)
	t.Kind = api.TypeKeyed
	for i := range t.Cases {
		t.Cases[i].Key = "k" + strconv.Itoa(i)
	}
	return t
}

func enum(name string, words ...string) api.Type {
	return api.Type{Name: name, Kind: api.TypeEnum, Words: words}
}

// again tells the same list, with no memory in common.
func again(types []api.Type) []api.Type {
	types = slices.Clone(types)
	for i := range types {
		t := &types[i]
		t.Fields, t.Cases, t.Words = slices.Clone(t.Fields), slices.Clone(t.Cases), slices.Clone(t.Words)
	}
	return types
}

// changed tells a list with one type written over.
func changed(types []api.Type, at int, by func(*api.Type)) []api.Type {
	types = again(types)
	by(&types[at])
	return types
}

// rolled tells a list of n types t0, t1 and so on, of any kinds, that speak of one another.
func rolled(d *sample.Dice, n int) []api.Type {
	var types []api.Type
	for i := range n {
		types = append(types, rolledType(d, "t"+strconv.Itoa(i), n))
	}
	return types
}

// rolledRef tells a reference; one in about eight takes null.
func rolledRef(d *sample.Dice, n int) api.Ref {
	name := plainOwn[d.Below(len(plainOwn))]
	if d.Below(3) > 0 {
		name = "t" + strconv.Itoa(d.Below(n))
	}
	return api.Ref{Name: name, Null: d.Below(8) == 0}
}

func rolledType(d *sample.Dice, name string, n int) api.Type {
	var refs []api.Ref
	var names []string
	for range 1 + d.Below(3) {
		r := rolledRef(d, n)
		refs, names = append(refs, r), append(names, r.Name)
	}
	lo := int64(d.Below(2))
	var t api.Type
	switch kind := 1 + d.Below(9); kind {
	case api.TypeName:
		return rename(name, refs[0])
	case api.TypeInt:
		return whole(name, lo-1, int64(d.Below(3)))
	case api.TypeList:
		return list(name, refs[0], lo, lo+int64(d.Below(2)))
	case api.TypeMap:
		return mapping(name, refs[0], lo, lo+int64(d.Below(2)))
	case api.TypeStruct:
		t = record(name, refs...)
		for i := range t.Fields {
			t.Fields[i].Maybe = d.Below(4) == 0
		}
	case api.TypeTuple:
		t = tuple(name, refs...)
		for i := range t.Fields {
			t.Fields[i].Maybe = i > 0 && t.Fields[i-1].Maybe || d.Below(4) == 0
		}
	case api.TypeKeyed:
		return keyed(name, names...)
	case api.TypeKinded:
		return kinded(name, names...)
	case api.TypeEnum:
		return enum(name, strings.Fields("ab c dd")[d.Below(2):]...)
	}
	return t
}

// spoil makes one type of a list wrong, in one of the ways that the chapter names; not each way spoils each type.
func spoil(d *sample.Dice, types []api.Type) {
	t := &types[d.Below(len(types))]
	name := strings.Split("int,,a b,t0,t1,\u00e4,a\n,"+strings.Repeat("n", 65), ",")[d.Below(8)]
	lacking := []string{"nope", "", "Int"}[d.Below(3)]
	text := []string{"\xff", "f0", "k0", "c", "", "\xed\xa0\x80"}[d.Below(6)]
	switch d.Below(14) {
	case 0:
		t.Name = name
	case 1:
		t.Kind = []int{0, 10, -1, 1, 2, 3, 4, 5, 6, 7, 8, 9}[d.Below(12)]
	case 2:
		t.Lo += int64(d.Below(5) - 2)
	case 3:
		t.Hi += int64(d.Below(5) - 2)
	case 4:
		t.Of.Name = lacking
	case 5:
		t.Of.Null = !t.Of.Null
	case 6:
		t.Words = append(slices.Clone(t.Words), text)
	case 7:
		t.Words = nil
	case 8:
		t.Cases = append(slices.Clone(t.Cases), api.Case{Key: text, Name: "text"})
	case 9:
		t.Cases = nil
	default:
		spoilInside(d, t, name, lacking, text)
	}
}

// spoilInside makes a field or a case of a type wrong.
func spoilInside(d *sample.Dice, t *api.Type, name, lacking, text string) {
	t.Fields, t.Cases = slices.Clone(t.Fields), slices.Clone(t.Cases)
	if len(t.Cases) > 0 {
		c := &t.Cases[d.Below(len(t.Cases))]
		switch d.Below(2) {
		case 0:
			c.Key = text
		case 1:
			c.Name = lacking
		}
	}
	if len(t.Fields) > 0 {
		f := &t.Fields[d.Below(len(t.Fields))]
		switch d.Below(5) {
		case 0:
			f.Name = name
		case 1:
			f.Key = text
		case 2:
			f.Of.Name = lacking
		case 3:
			f.Maybe = !f.Maybe
		case 4:
			f.Name = "f0"
		}
	}
}
