package typed

import (
	"trellis/api"
	"trellis/schema"
)

// book tells what the names of a table take. The table tells a type in new memory each time, so a name is looked up there once.
type book struct {
	table *schema.Table
	seen  map[string]entry
}

// entry is what a name takes: what the type does that it comes to, and null, if a name on the way there takes it beside.
type entry struct {
	by   taker
	null bool
}

// opened tells the book of a table.
func opened(t *schema.Table) book { return book{t, map[string]entry{}} }

// find tells what a name of the table takes.
func (b book) find(name string) entry {
	e, is := b.seen[name]
	if !is {
		e = b.follow(name)
		b.seen[name] = e
	}
	return e
}

// follow goes from a name to the type that it comes to. That ends: no table has names that can be followed without end.
func (b book) follow(name string) entry {
	t, _ := b.table.Find(name)
	null := false
	for t.Kind == api.TypeName {
		null = null || t.Of.Null
		t, _ = b.table.Find(t.Of.Name)
	}
	return entry{b.takerOf(t), null}
}

// takerOf tells what a type takes that is no name of another one.
func (b book) takerOf(t api.Type) taker {
	switch t.Kind {
	case api.TypeInt:
		return whole{api.KindInt, t.Lo, t.Hi}
	case api.TypeList:
		return many{api.KindList, t.Of, t.Lo, t.Hi}
	case api.TypeMap:
		return many{api.KindMap, t.Of, t.Lo, t.Hi}
	case api.TypeStruct:
		return fieldsOf(api.KindMap, t)
	case api.TypeTuple:
		return fieldsOf(api.KindList, t)
	case api.TypeKeyed:
		return keyed{t.Cases, placesOf(t.Cases, func(c api.Case) string { return c.Key })}
	case api.TypeKinded:
		return b.kindedOf(t)
	case api.TypeEnum:
		return enum{t.Words, placesOf(t.Words, func(word string) string { return word })}
	}
	return ownTaker(t.Name)
}

// fieldsOf tells what a struct or a tuple takes, whose trees are of this kind.
func fieldsOf(nest int, t api.Type) fields {
	needed := 0
	for _, f := range t.Fields {
		if !f.Maybe {
			needed++
		}
	}
	return fields{nest, t.Fields, needed, placesOf(t.Fields, func(f api.Field) string { return f.Key })}
}

// kindedOf tells what a kinded type takes. None of its cases is kinded itself, so that finding them comes to an end.
func (b book) kindedOf(t api.Type) kinded {
	k := kinded{cases: t.Cases}
	for at, c := range t.Cases {
		k.counts[b.find(c.Name).by.kind()] = at + 1
	}
	return k
}

// ownTaker tells what a built-in type takes.
func ownTaker(name string) taker {
	switch name {
	case "null":
		return plain(api.KindNull)
	case "bool":
		return plain(api.KindBool)
	case "int":
		return plain(api.KindInt)
	case "float":
		return plain(api.KindFloat)
	case "single":
		return single{api.KindFloat}
	case "text":
		return plain(api.KindText)
	case "bytes":
		return plain(api.KindBytes)
	case "link":
		return plain(api.KindLink)
	}
	return plain(api.KindNone)
}

// placesOf tells at which place of a list each text stands, where text tells an item's.
func placesOf[T any](list []T, text func(T) string) map[string]int {
	places := map[string]int{}
	for at, item := range list {
		places[text(item)] = at
	}
	return places
}
