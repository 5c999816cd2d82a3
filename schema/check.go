package schema

import (
	"slices"

	"trellis/api"
)

// alone tells the error of a type by itself, whatever the types are of which it speaks.
func (b book) alone(at int) api.Errno {
	t := b.types[at]
	// What a kind is asked for stands behind tidy, where the fields of other kinds are known to be zero.
	switch {
	case !nameable(t.Name) || b.taken(t.Name, at):
		return api.ErrSchemaName
	case !tidy(t):
		return api.ErrSchemaKind
	case t.Lo > t.Hi || t.Lo < 0 && t.Kind != api.TypeInt:
		return api.ErrSchemaRange
	case slices.ContainsFunc(references(t), b.lost):
		return api.ErrSchemaRef
	case !fieldsFit(t):
		return api.ErrSchemaField
	case !casesFit(t):
		return api.ErrSchemaCase
	}
	return api.OK
}

// ring tells whether the name of a type can be followed without end.
func (b book) ring(at int) api.Errno {
	if b.follow(b.types[at].Name) == (ending{}) {
		return api.ErrSchemaRing
	}
	return api.OK
}

// together tells the error of a type by the types of which it speaks.
func (b book) together(at int) api.Errno {
	t := b.types[at]
	switch {
	case slices.ContainsFunc(references(t), b.nullTwice):
		return api.ErrSchemaNull
	case t.Kind == api.TypeKinded && !b.kindsApart(t):
		return api.ErrSchemaCase
	}
	return api.OK
}

// taken tells whether the name of the type at a place is a built-in type's, or an earlier one's.
func (b book) taken(name string, at int) bool {
	_, own := ownKind(name)
	return own || b.places[name] < at
}

// tidy tells whether a type's kind is one, and the fields that it does not use are zero.
func tidy(t api.Type) bool {
	switch t.Kind {
	case api.TypeName:
		t.Of = api.Ref{}
	case api.TypeInt:
		t.Lo, t.Hi = 0, 0
	case api.TypeList, api.TypeMap:
		t.Of, t.Lo, t.Hi = api.Ref{}, 0, 0
	case api.TypeStruct, api.TypeTuple:
		t.Fields = nil
	case api.TypeKeyed, api.TypeKinded:
		t.Cases = nil
	case api.TypeEnum:
		t.Words = nil
	default:
		return false
	}
	return t.Lo == 0 && t.Hi == 0 && t.Of == (api.Ref{}) && len(t.Fields) == 0 && len(t.Cases) == 0 && len(t.Words) == 0
}

// references tells what a type speaks of.
func references(t api.Type) []api.Ref {
	var all []api.Ref
	if t.Kind == api.TypeName || t.Kind == api.TypeList || t.Kind == api.TypeMap {
		all = append(all, t.Of)
	}
	for _, f := range t.Fields {
		all = append(all, f.Of)
	}
	for _, c := range t.Cases {
		all = append(all, api.Ref{Name: c.Name})
	}
	return all
}

// lost tells whether a reference names no type.
func (b book) lost(r api.Ref) bool {
	_, is := b.find(r.Name)
	return !is
}

// nullTwice tells whether a reference takes null beside what takes it already.
func (b book) nullTwice(r api.Ref) bool { return r.Null && b.follow(r.Name).null }

// kindsApart tells whether the kind of a tree tells which case of a kinded type it is.
func (b book) kindsApart(t api.Type) bool {
	var seen [api.KindMap + 1]bool
	for _, c := range t.Cases {
		end := b.follow(c.Name)
		base, _ := b.find(end.name)
		k := kind(base)
		// A case without a kind of its own is a kinded type here: any takes null.
		if end.null || k == api.KindNone || seen[k] {
			return false
		}
		seen[k] = true
	}
	return true
}
