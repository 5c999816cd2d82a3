package schema

import (
	"slices"
	"strings"
	"unicode/utf8"

	"trellis/api"
)

// nameable tells whether a text is a name.
func nameable(text string) bool {
	strange := func(c rune) bool {
		return !('a' <= c && c <= 'z' || 'A' <= c && c <= 'Z' || '0' <= c && c <= '9' || c == '-' || c == '.' || c == '_')
	}
	return text != "" && len(text) <= api.MaxName && !strings.ContainsFunc(text, strange)
}

// fieldsFit tells whether the fields of a type may stand beside one another.
func fieldsFit(t api.Type) bool {
	if len(t.Fields) > api.MaxFields {
		return false
	}
	strayName, strayKey, maybe := strays(), strays(), false
	for _, f := range t.Fields {
		switch {
		case !nameable(f.Name) || strayName(f.Name):
			return false
		case t.Kind == api.TypeStruct && strayKey(f.Key):
			return false
		case t.Kind == api.TypeTuple && (f.Key != "" || maybe && !f.Maybe):
			return false
		}
		maybe = f.Maybe
	}
	return true
}

// casesFit tells whether the cases or the words of a type may stand beside one another.
func casesFit(t api.Type) bool {
	stray := strays()
	switch t.Kind {
	case api.TypeKeyed:
		return some(t.Cases) && !slices.ContainsFunc(t.Cases, func(c api.Case) bool { return stray(c.Key) })
	case api.TypeKinded:
		return some(t.Cases) && !slices.ContainsFunc(t.Cases, func(c api.Case) bool { return c.Key != "" })
	case api.TypeEnum:
		return some(t.Words) && !slices.ContainsFunc(t.Words, stray)
	}
	return true
}

// some tells whether a list has as many items as a type's cases or words may be.
func some[T any](list []T) bool { return len(list) > 0 && len(list) <= api.MaxFields }

// strays tells a question that is asked text by text: is this one no good UTF-8, or has it been asked for already?
func strays() func(string) bool {
	seen := map[string]struct{}{}
	return func(text string) bool {
		_, before := seen[text]
		seen[text] = struct{}{}
		return before || !utf8.ValidString(text)
	}
}
