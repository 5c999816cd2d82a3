package schema

import (
	"slices"

	"trellis/api"
)

// filled tells the names of the types that can have a tree: at first those of the built-in types, then each whose rule holds by those that are there, until no more come.
func filled(types []api.Type) map[string]struct{} {
	names := map[string]struct{}{}
	for _, own := range builtIn {
		names[own.name] = struct{}{}
	}
	named := func(name string) bool {
		_, is := names[name]
		return is
	}
	var rules []func() bool
	for _, t := range types {
		rules = append(rules, rule(t, named))
	}
	for before := 0; before < len(names); {
		before = len(names)
		for at, holds := range rules {
			if holds() {
				names[types[at].Name] = struct{}{}
			}
		}
	}
	return names
}

// rule tells how to ask whether a type is filled, where named tells which names are so far.
func rule(t api.Type, named func(string) bool) func() bool {
	lacks := func(r api.Ref) bool { return !r.Null && !named(r.Name) }
	switch t.Kind {
	case api.TypeName:
		return func() bool { return !lacks(t.Of) }
	case api.TypeList, api.TypeMap:
		return func() bool { return t.Lo == 0 || !lacks(t.Of) }
	case api.TypeStruct, api.TypeTuple:
		return func() bool {
			return !slices.ContainsFunc(t.Fields, func(f api.Field) bool { return !f.Maybe && lacks(f.Of) })
		}
	case api.TypeKeyed, api.TypeKinded:
		return func() bool {
			return slices.ContainsFunc(t.Cases, func(c api.Case) bool { return named(c.Name) })
		}
	}
	return func() bool { return true }
}
