package schema

// The chapter read a second time, plainly: fields that a kind uses by their names, names that are followed as rows, kinds as sets, and what is filled by how high a tree has to be.

import (
	"reflect"
	"regexp"
	"slices"
	"strings"
	"unicode/utf8"

	"trellis/api"
)

var plainName = regexp.MustCompile(`\A[a-zA-Z0-9._-]{1,64}\z`)

var plainOwn = strings.Fields("any null bool int float single text bytes link")

var plainUses = map[int]string{
	api.TypeName:   "Of",
	api.TypeInt:    "Lo Hi",
	api.TypeList:   "Of Lo Hi",
	api.TypeMap:    "Of Lo Hi",
	api.TypeStruct: "Fields",
	api.TypeTuple:  "Fields",
	api.TypeKeyed:  "Cases",
	api.TypeKinded: "Cases",
	api.TypeEnum:   "Words",
}

var plainKinds = map[int]int{
	api.TypeInt:    api.KindInt,
	api.TypeList:   api.KindList,
	api.TypeTuple:  api.KindList,
	api.TypeMap:    api.KindMap,
	api.TypeStruct: api.KindMap,
	api.TypeKeyed:  api.KindMap,
	api.TypeEnum:   api.KindText,
}

var plainOwnKinds = map[string]int{
	"null": api.KindNull, "bool": api.KindBool, "int": api.KindInt, "float": api.KindFloat, "single": api.KindFloat,
	"text": api.KindText, "bytes": api.KindBytes, "link": api.KindLink,
}

// plain is a list of types.
type plain []api.Type

// find: the last one of the list is not ahead of the first one.
func (p plain) find(name string) (api.Type, bool) {
	for _, t := range p {
		if t.Name == name {
			return t, true
		}
	}
	if slices.Contains(plainOwn, name) {
		return api.Type{Name: name}, true
	}
	return api.Type{}, false
}

// row: a name and all that it is followed to; true, if there is no end.
func (p plain) row(name string) ([]string, bool) {
	row := []string{name}
	for {
		t, _ := p.find(row[len(row)-1])
		if t.Kind != api.TypeName {
			return row, false
		}
		if slices.Contains(row, t.Of.Name) {
			return row, true
		}
		row = append(row, t.Of.Name)
	}
}

func (p plain) base(name string) (api.Type, bool) {
	row, _ := p.row(name)
	return p.find(row[len(row)-1])
}

func (p plain) takesNull(name string) bool {
	row, _ := p.row(name)
	for _, n := range row {
		t, _ := p.find(n)
		if n == "any" || n == "null" || t.Kind == api.TypeName && t.Of.Null {
			return true
		}
	}
	return false
}

// kinds: those that a name takes, as a set; of a kinded type within so many others.
func (p plain) kinds(name string, within int) map[int]bool {
	set := map[int]bool{}
	if p.takesNull(name) {
		set[api.KindNull] = true
	}
	t, _ := p.base(name)
	switch {
	case t.Name == "any":
		for k := api.KindNull; k <= api.KindMap; k++ {
			set[k] = true
		}
	case t.Kind == api.TypeNone:
		set[plainOwnKinds[t.Name]] = true
	case t.Kind == api.TypeKinded:
		for _, c := range t.Cases {
			if within > 0 {
				for k := range p.kinds(c.Name, within-1) {
					set[k] = true
				}
			}
		}
	default:
		set[plainKinds[t.Kind]] = true
	}
	return set
}

func plainRefs(t api.Type) (refs []api.Ref) {
	if strings.Contains(plainUses[t.Kind], "Of") {
		refs = append(refs, t.Of)
	}
	for _, f := range t.Fields {
		refs = append(refs, f.Of)
	}
	for _, c := range t.Cases {
		refs = append(refs, api.Ref{Name: c.Name})
	}
	return refs
}

// count: how often a text stands among those that a question tells of the places 0 to n - 1.
func count(n int, text string, of func(int) string) int {
	c := 0
	for i := range n {
		if of(i) == text {
			c++
		}
	}
	return c
}

func (p plain) nameErr(at int) bool {
	name := p[at].Name
	return !plainName.MatchString(name) || slices.Contains(plainOwn, name) ||
		count(at, name, func(i int) string { return p[i].Name }) > 0
}

func (p plain) kindErr(at int) bool {
	uses, is := plainUses[p[at].Kind]
	v := reflect.ValueOf(p[at])
	for i := range v.NumField() {
		name := v.Type().Field(i).Name
		f := v.Field(i)
		zero := f.IsZero() || f.Kind() == reflect.Slice && f.Len() == 0
		if name != "Name" && name != "Kind" && !slices.Contains(strings.Fields(uses), name) && !zero {
			return true
		}
	}
	return !is
}

func (p plain) rangeErr(at int) bool {
	t := p[at]
	switch t.Kind {
	case api.TypeInt:
		return t.Lo > t.Hi
	case api.TypeList, api.TypeMap:
		return t.Lo < 0 || t.Lo > t.Hi
	}
	return false
}

func (p plain) refErr(at int) bool {
	for _, r := range plainRefs(p[at]) {
		if _, is := p.find(r.Name); !is {
			return true
		}
	}
	return false
}

func (p plain) fieldErr(at int) bool {
	t := p[at]
	n := len(t.Fields)
	if t.Kind != api.TypeStruct && t.Kind != api.TypeTuple {
		return false
	}
	for i, f := range t.Fields {
		switch {
		case i >= 64, !plainName.MatchString(f.Name):
			return true
		case count(n, f.Name, func(i int) string { return t.Fields[i].Name }) > 1:
			return true
		case t.Kind == api.TypeStruct && (!utf8.ValidString(f.Key) || count(n, f.Key, func(i int) string { return t.Fields[i].Key }) > 1):
			return true
		case t.Kind == api.TypeTuple && (f.Key != "" || f.Maybe && slices.ContainsFunc(t.Fields[i:], func(g api.Field) bool { return !g.Maybe })):
			return true
		}
	}
	return false
}

func (p plain) caseErr(at int) bool {
	t := p[at]
	texts := slices.Clone(t.Words)
	for _, c := range t.Cases {
		texts = append(texts, c.Key)
	}
	if t.Kind != api.TypeKeyed && t.Kind != api.TypeKinded && t.Kind != api.TypeEnum {
		return false
	}
	for i, text := range texts {
		if i >= 64 || t.Kind == api.TypeKinded && text != "" || !utf8.ValidString(text) {
			return true
		}
		if t.Kind != api.TypeKinded && count(len(texts), text, func(i int) string { return texts[i] }) > 1 {
			return true
		}
	}
	return len(texts) == 0
}

func (p plain) ringErr(at int) bool {
	_, endless := p.row(p[at].Name)
	return endless
}

func (p plain) nullErr(at int) bool {
	return slices.ContainsFunc(plainRefs(p[at]), func(r api.Ref) bool { return r.Null && p.takesNull(r.Name) })
}

func (p plain) kindedErr(at int) bool {
	taken := map[int]bool{}
	if p[at].Kind != api.TypeKinded {
		return false
	}
	for _, c := range p[at].Cases {
		if t, _ := p.base(c.Name); t.Kind == api.TypeKinded || p.takesNull(c.Name) {
			return true
		}
		for k := range p.kinds(c.Name, 3) {
			if taken[k] {
				return true
			}
			taken[k] = true
		}
	}
	return false
}

// check: the four looks, each a row of questions that a type is asked.
func (p plain) check() (api.Errno, int) {
	type question struct {
		code api.Errno
		asks func(int) bool
	}
	if len(p) > 64 {
		return api.ErrSchemaMany, 0
	}
	for _, look := range [][]question{
		{{api.ErrSchemaName, p.nameErr}, {api.ErrSchemaKind, p.kindErr}, {api.ErrSchemaRange, p.rangeErr},
			{api.ErrSchemaRef, p.refErr}, {api.ErrSchemaField, p.fieldErr}, {api.ErrSchemaCase, p.caseErr}},
		{{api.ErrSchemaRing, p.ringErr}},
		{{api.ErrSchemaNull, p.nullErr}, {api.ErrSchemaCase, p.kindedErr}},
	} {
		for at := range p {
			for _, q := range look {
				if q.asks(at) {
					return q.code, at
				}
			}
		}
	}
	return api.OK, 0
}

// filled: whether a name is by at most so many rules one upon the other; a rule that holds needs each name at most once on the way to it, so that as many as there are types do.
func (p plain) filled(name string) bool { return p.filledBy(name, len(p), map[string]int{}) }

// filledBy: tried tells of a name with how many rules it has been tried in vain, so that it is not tried with fewer; -1, if it is filled.
func (p plain) filledBy(name string, rules int, tried map[string]int) bool {
	t, is := p.find(name)
	if !is || t.Kind == api.TypeNone {
		return is
	}
	if rules <= tried[name] || tried[name] < 0 {
		return tried[name] < 0
	}
	ref := func(r api.Ref) bool { return r.Null || p.filledBy(r.Name, rules-1, tried) }
	yes := false
	switch t.Kind {
	case api.TypeInt, api.TypeEnum:
		yes = true
	case api.TypeName:
		yes = ref(t.Of)
	case api.TypeList, api.TypeMap:
		yes = t.Lo == 0 || ref(t.Of)
	case api.TypeStruct, api.TypeTuple:
		yes = true
		for _, f := range t.Fields {
			yes = yes && (f.Maybe || ref(f.Of))
		}
	case api.TypeKeyed, api.TypeKinded:
		for _, c := range t.Cases {
			yes = yes || ref(api.Ref{Name: c.Name})
		}
	}
	tried[name] = rules
	if yes {
		tried[name] = -1
	}
	return yes
}

func (p plain) names() []string {
	names := slices.Clone(plainOwn)
	for _, t := range p {
		names = append(names, t.Name)
	}
	slices.SortFunc(names, strings.Compare)
	return names
}
