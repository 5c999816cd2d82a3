package schema

import "trellis/api"

// builtIn are the types that are in every schema, each with the kind of its trees; any has no kind of its own.
var builtIn = [...]struct {
	name string
	kind int
}{
	{"any", api.KindNone},
	{"null", api.KindNull},
	{"bool", api.KindBool},
	{"int", api.KindInt},
	{"float", api.KindFloat},
	{"single", api.KindFloat},
	{"text", api.KindText},
	{"bytes", api.KindBytes},
	{"link", api.KindLink},
}

// book is a list of types, with the first place at which each name stands there.
type book struct {
	types  []api.Type
	places map[string]int
}

// opened tells the book of a list. A name may stand there twice: Check refuses the later type.
func opened(types []api.Type) book {
	places := map[string]int{}
	for at, t := range types {
		if _, before := places[t.Name]; !before {
			places[t.Name] = at
		}
	}
	return book{types, places}
}

// find tells the type of a name, as it stands in the book.
func (b book) find(name string) (api.Type, bool) {
	if at, is := b.places[name]; is {
		return b.types[at], true
	}
	if _, is := ownKind(name); is {
		return api.Type{Name: name}, true
	}
	return api.Type{}, false
}

// ownKind tells the kind of a built-in type's trees, and whether the name is such a type's.
func ownKind(name string) (int, bool) {
	for _, own := range builtIn {
		if own.name == name {
			return own.kind, true
		}
	}
	return api.KindNone, false
}

// ending is what following a name comes to: the last name, and whether the first one takes null. Where there is no end, there is no name.
type ending struct {
	name string
	null bool
}

// follow goes from a name to the one that it comes to.
func (b book) follow(name string) ending {
	null := false
	// Who has gone through more names than there are types has come to one of them twice.
	for range len(b.types) + 1 {
		t, _ := b.find(name)
		if t.Kind != api.TypeName {
			return ending{name, null || name == "any" || name == "null"}
		}
		name, null = t.Of.Name, null || t.Of.Null
	}
	return ending{}
}

// kind tells the one kind of the trees of a type; none, if there are several (of any, of a kinded type).
func kind(t api.Type) int {
	switch t.Kind {
	case api.TypeInt:
		return api.KindInt
	case api.TypeList, api.TypeTuple:
		return api.KindList
	case api.TypeMap, api.TypeStruct, api.TypeKeyed:
		return api.KindMap
	case api.TypeEnum:
		return api.KindText
	}
	own, _ := ownKind(t.Name)
	return own
}
