package schema

import (
	"fmt"
	"math"
	"reflect"
	"slices"
	"strconv"
	"strings"
	"sync"
	"testing"

	"trellis/api"
	"trellis/sample"
)

// same: the same plain data, where a nil list and an empty one are one.
func same(a, b api.Type) bool {
	return a.Name == b.Name && a.Kind == b.Kind && a.Lo == b.Lo && a.Hi == b.Hi && a.Of == b.Of &&
		slices.Equal(a.Fields, b.Fields) && slices.Equal(a.Cases, b.Cases) && slices.Equal(a.Words, b.Words)
}

// refused: the error of a list, and its place; no table comes of it.
func refused(t *testing.T, types []api.Type, code api.Errno, place int) {
	t.Helper()
	if e, at := Check(types); e != code || at != place {
		t.Errorf("P11.1: %d at %d, want %d at %d: %.200q", e, at, code, place, fmt.Sprint(types))
	}
	x, e := Open(types)
	if e != code || (x == nil) != (code != api.OK) {
		t.Errorf("P11.2: %v, %d, want %d: %.200q", x, e, code, fmt.Sprint(types))
	}
}

// taken: a list that may be.
func taken(t *testing.T, types []api.Type) { t.Helper(); refused(t, types, api.OK, 0) }

// hold holds all that is told of a list against the second reading.
func hold(t *testing.T, types []api.Type) api.Errno {
	t.Helper()
	p := plain(types)
	code, place := p.check()
	refused(t, types, code, place)
	x, _ := Open(types)
	if x == nil {
		return code
	}
	if names := x.Names(); !slices.Equal(names, p.names()) {
		t.Errorf("P11.3: Names: %v, want %v", names, p.names())
	}
	for _, name := range append(p.names(), "", "nope", "Int", "t", "\xff", "a b") {
		found, is := x.Find(name)
		want, has := p.find(name)
		if is != has || !same(found, want) {
			t.Errorf("P11.3: Find(%q): %v, %v, want %v of %v", name, found, is, want, types)
		}
		found, is = x.Base(name)
		want, has = p.base(name)
		if is != has || !same(found, want) {
			t.Errorf("P11.3: Base(%q): %v, %v, want %v of %v", name, found, is, want, types)
		}
		if x.Filled(name) != p.filled(name) {
			t.Errorf("P11.4: Filled(%q): %v of %v", name, x.Filled(name), types)
		}
	}
	return code
}

// four: the chapter's list.
func four() []api.Type {
	pair := record("pair", ref("int"), null("pair"))
	pair.Fields[0].Name, pair.Fields[0].Key = "left", "l"
	pair.Fields[1].Name, pair.Fields[1].Key = "right", "r"
	return []api.Type{pair, rename("id", ref("text")), kinded("both", "id", "pair"), tuple("loop", ref("loop"))}
}

func TestExampleTable(t *testing.T) {
	taken(t, four())
	hold(t, four())
	x, _ := Open(four())
	if got := strings.Join(x.Names(), ", "); got != "any, bool, both, bytes, float, id, int, link, loop, null, pair, single, text" {
		t.Errorf("Names: %s", got)
	}
	if y, is := x.Find("id"); !is || !same(y, api.Type{Name: "id", Kind: api.TypeName, Of: ref("text")}) {
		t.Errorf("Find(id): %v, %v", y, is)
	}
	if y, is := x.Base("id"); !is || !same(y, api.Type{Name: "text"}) {
		t.Errorf("Base(id): %v, %v", y, is)
	}
	if y, is := x.Base("none"); is || !same(y, api.Type{}) {
		t.Errorf("Base(none): %v, %v", y, is)
	}
	for name, want := range map[string]bool{"pair": true, "id": true, "both": true, "loop": false, "none": false} {
		if x.Filled(name) != want {
			t.Errorf("Filled(%s): %v", name, !want)
		}
	}
	x, _ = Open(changed(four(), 3, func(x *api.Type) { x.Fields[0].Maybe = true }))
	if !x.Filled("loop") {
		t.Errorf("loop's field may be left out: it is filled")
	}
	x, _ = Open(nil)
	if !slices.Equal(x.Names(), strings.Fields("any bool bytes float int link null single text")) {
		t.Errorf("no types: %v", x.Names())
	}
	hold(t, nil)
	hold(t, []api.Type{})
}

func TestExampleRefused(t *testing.T) {
	set := func(at int, y api.Type) []api.Type { return changed(four(), at, func(x *api.Type) { *x = y }) }
	refused(t, set(3, rename("loop", ref("loop"))), api.ErrSchemaRing, 3)
	refused(t, set(1, rename("id", null("text"))), api.ErrSchemaCase, 2)
	refused(t, set(2, kinded("both", "id", "text")), api.ErrSchemaCase, 2)
	refused(t, set(1, rename("id", null("any"))), api.ErrSchemaNull, 1)
	refused(t, set(1, whole("int", 0, 1)), api.ErrSchemaName, 1)
	refused(t, set(3, api.Type{Name: "loop", Kind: 10}), api.ErrSchemaKind, 3)
	refused(t, set(3, api.Type{Name: "loop", Kind: api.TypeEnum, Lo: 1, Words: []string{"a"}}), api.ErrSchemaKind, 3)
	refused(t, set(3, list("loop", ref("any"), 2, 1)), api.ErrSchemaRange, 3)
	refused(t, set(3, rename("loop", ref("nope"))), api.ErrSchemaRef, 3)
	refused(t, changed(four(), 0, func(x *api.Type) { x.Fields[0].Key, x.Fields[1].Key = "", "" }), api.ErrSchemaField, 0)
	refused(t, set(3, enum("loop")), api.ErrSchemaCase, 3)
}

// wholes: n types that may be.
func wholes(n int) []api.Type {
	var types []api.Type
	for i := range n {
		types = append(types, whole("w"+strconv.Itoa(i), 0, 0))
	}
	return types
}

func TestMany(t *testing.T) {
	hold(t, wholes(63))
	taken(t, wholes(64))
	refused(t, wholes(65), api.ErrSchemaMany, 0)
	refused(t, wholes(1000), api.ErrSchemaMany, 0)
	refused(t, make([]api.Type, 65), api.ErrSchemaMany, 0)
	refused(t, append(wholes(63), api.Type{}), api.ErrSchemaName, 63)
	refused(t, make([]api.Type, 64), api.ErrSchemaName, 0)
}

func TestNames(t *testing.T) {
	in := func(name string) []api.Type { return []api.Type{whole("w", 0, 0), whole(name, 0, 0)} }
	letters := "abcdefghijklmnopqrstuvwxyzABCDEFGHIJKLMNOPQRSTUVWXYZ0123456789-._"
	for c := range 256 {
		for _, name := range []string{string([]byte{byte(c)}), string([]byte{'a', byte(c)}), string([]byte{byte(c), 'Z'})} {
			if name == "w" {
				continue
			}
			if strings.IndexByte(letters, byte(c)) >= 0 {
				taken(t, in(name))
			} else {
				refused(t, in(name), api.ErrSchemaName, 1)
			}
		}
	}
	for n := range 70 {
		if n >= 1 && n <= 64 {
			taken(t, in(strings.Repeat("n", n)))
		} else {
			refused(t, in(strings.Repeat("n", n)), api.ErrSchemaName, 1)
		}
	}
	refused(t, in(strings.Repeat("\u00e4", 32)), api.ErrSchemaName, 1)
	for _, own := range plainOwn {
		refused(t, in(own), api.ErrSchemaName, 1)
		hold(t, in(own+"s"))
		hold(t, in(strings.ToUpper(own)))
	}
	refused(t, in("w"), api.ErrSchemaName, 1)
	refused(t, []api.Type{whole("a", 0, 0), whole("b", 0, 0), whole("c", 0, 0), whole("b", 0, 0), whole("a", 0, 0)}, api.ErrSchemaName, 3)
	for _, name := range []string{"TypeNone", "none", "type", "map", "list", "Any"} {
		taken(t, in(name))
	}
}

// eachKind: a type of each kind that may be, with which fields it uses.
func eachKind(name string) []api.Type {
	return []api.Type{
		rename(name, ref("text")), whole(name, -2, 1), list(name, ref("text"), 0, 1), mapping(name, ref("text"), 1, 1),
		record(name, ref("text"), null("int")), tuple(name, ref("text"), null("int")), keyed(name, "text", "text"), kinded(name, "text", "int"), enum(name, "ab", "c"),
	}
}

func TestKind(t *testing.T) {
	for i, x := range eachKind("x") {
		taken(t, []api.Type{x})
		for kind := -300; kind < 300; kind++ {
			y := x
			y.Kind = kind
			hold(t, []api.Type{y})
			if kind < 1 || kind > 9 {
				refused(t, []api.Type{y}, api.ErrSchemaKind, 0)
			}
		}
		for what, by := range []func(*api.Type){
			func(x *api.Type) { x.Lo = 1 }, func(x *api.Type) { x.Lo = math.MinInt64 }, func(x *api.Type) { x.Hi = 1 }, func(x *api.Type) { x.Hi = -1 },
			func(x *api.Type) { x.Of.Name = "text" }, func(x *api.Type) { x.Of.Null = true },
			func(x *api.Type) { x.Fields = make([]api.Field, 1) }, func(x *api.Type) { x.Cases = make([]api.Case, 1) }, func(x *api.Type) { x.Words = make([]string, 1) },
		} {
			y := x
			by(&y)
			hold(t, []api.Type{whole("w", 0, 0), y})
			uses := []string{"Of", "Lo Hi", "Of Lo Hi", "Of Lo Hi", "Fields", "Fields", "Cases", "Cases", "Words"}[i]
			if field := strings.Fields("Lo Lo Hi Hi Of Of Fields Cases Words")[what]; !strings.Contains(uses, field) {
				refused(t, []api.Type{whole("w", 0, 0), y}, api.ErrSchemaKind, 1)
			}
		}
		x.Fields, x.Cases, x.Words = append([]api.Field{}, x.Fields...), append([]api.Case{}, x.Cases...), append([]string{}, x.Words...)
		hold(t, []api.Type{x})
	}
	for _, far := range []int{math.MinInt64, math.MaxInt64, 1 << 32, 1<<32 + 1, 257} {
		refused(t, []api.Type{{Name: "x", Kind: far}}, api.ErrSchemaKind, 0)
	}
}

func TestRange(t *testing.T) {
	edges := []int64{math.MinInt64, math.MinInt64 + 1, -2, -1, 0, 1, 2, math.MaxInt64 - 1, math.MaxInt64}
	for _, lo := range edges {
		for _, hi := range edges {
			for i, x := range []api.Type{whole("x", lo, hi), list("x", ref("any"), lo, hi), mapping("x", ref("any"), lo, hi)} {
				if lo > hi || i > 0 && lo < 0 {
					refused(t, []api.Type{x}, api.ErrSchemaRange, 0)
				} else {
					taken(t, []api.Type{x})
				}
			}
		}
	}
}

func TestReferences(t *testing.T) {
	for _, own := range plainOwn {
		hold(t, []api.Type{rename("x", ref(own)), list("l", ref(own), 1, 1), record("r", ref(own)), keyed("k", own)})
		taken(t, []api.Type{rename("x", ref(own)), list("l", ref(own), 1, 1), record("r", ref(own)), keyed("k", own)})
	}
	for _, name := range []string{"nope", "", "Text", "texts", "text ", "TypeInt"} {
		for _, x := range []api.Type{
			rename("x", ref(name)), rename("x", null(name)), list("x", ref(name), 0, 0), mapping("x", ref(name), 0, 0),
			record("x", ref("int"), ref(name)), tuple("x", ref(name), ref("int")), keyed("x", "int", name), kinded("x", name, "int"),
		} {
			refused(t, []api.Type{whole("w", 0, 0), x, whole("y", 0, 0)}, api.ErrSchemaRef, 1)
		}
	}
	// A later type has the name, though it is none or stands twice: then that is its own error.
	refused(t, []api.Type{rename("x", ref("a b")), whole("a b", 0, 0)}, api.ErrSchemaName, 1)
	refused(t, []api.Type{rename("x", ref("")), whole("", 0, 0)}, api.ErrSchemaName, 1)
	refused(t, []api.Type{rename("x", ref("y")), whole("y", 0, 0), whole("y", 0, 0)}, api.ErrSchemaName, 2)
	refused(t, []api.Type{rename("x", ref("y")), {Name: "y"}}, api.ErrSchemaKind, 1)
	refused(t, []api.Type{{Name: "x", Kind: api.TypeName}}, api.ErrSchemaRef, 0)
	taken(t, []api.Type{rename("x", ref("y")), whole("y", 0, 0)})
}

// refs: n references to text.
func refs(n int) []api.Ref { return slices.Repeat([]api.Ref{ref("text")}, n) }

func TestFields(t *testing.T) {
	for _, n := range []int{0, 1, 2, 63, 64, 65, 66, 1000} {
		want := api.OK
		if n > 64 {
			want = api.ErrSchemaField
		}
		refused(t, []api.Type{record("x", refs(n)...)}, want, 0)
		refused(t, []api.Type{tuple("x", refs(n)...)}, want, 0)
	}
	for _, make := range []func(string, ...api.Ref) api.Type{record, tuple} {
		three := []api.Type{make("x", refs(3)...)}
		for _, name := range []string{"", "a b", "f0", "f2", "\xff", "\u00e4", strings.Repeat("n", 65)} {
			refused(t, changed(three, 0, func(x *api.Type) { x.Fields[1].Name = name }), api.ErrSchemaField, 0)
		}
		for _, name := range []string{"int", "x", "any", "F0", "-", ".", "_", "0", strings.Repeat("n", 64)} {
			taken(t, changed(three, 0, func(x *api.Type) { x.Fields[1].Name = name }))
		}
		// A name may be another field's key.
		hold(t, changed(three, 0, func(x *api.Type) { x.Fields[1].Name, x.Fields[1].Key = "g", "f1" }))
	}
	key := func(a, b string) []api.Type {
		return changed([]api.Type{record("x", refs(3)...)}, 0, func(x *api.Type) { x.Fields[0].Key, x.Fields[2].Key = a, b })
	}
	for _, good := range [][2]string{{"", "a"}, {"a", ""}, {"a b", "\u00e4"}, {"\x00", "\uffff"}, {strings.Repeat("k", 5000), "\U0010ffff"}, {"a", "A"}, {"f0", "f2"}, {"f2", "f0"}} {
		taken(t, key(good[0], good[1]))
	}
	for _, wrong := range [][2]string{{"", ""}, {"a", "a"}, {"a", "f1"}, {"a", "\xff"}, {"\x80", "a"}, {"\xed\xa0\x80", "a"}, {"\xc0\x80", "b"}, {"\xf4\x90\x80\x80", "b"}, {"a\xc3", "b"}} {
		refused(t, key(wrong[0], wrong[1]), api.ErrSchemaField, 0)
	}
	for at := range 3 {
		refused(t, changed([]api.Type{tuple("x", refs(3)...)}, 0, func(x *api.Type) { x.Fields[at].Key = "k" }), api.ErrSchemaField, 0)
	}
}

func TestMaybe(t *testing.T) {
	for set := range 1 << 5 {
		mark := func(x *api.Type) {
			for i := range x.Fields {
				x.Fields[i].Maybe = set>>i&1 == 1
			}
		}
		taken(t, changed([]api.Type{record("x", refs(5)...)}, 0, mark))
		// The fields that may be left out stand at the end just if the set is a row of ones from some bit on.
		if low := set & -set; set == 0 || set+low == 1<<5 {
			taken(t, changed([]api.Type{tuple("x", refs(5)...)}, 0, mark))
		} else {
			refused(t, changed([]api.Type{tuple("x", refs(5)...)}, 0, mark), api.ErrSchemaField, 0)
		}
	}
}

func TestCases(t *testing.T) {
	for _, n := range []int{0, 1, 2, 63, 64, 65, 66, 1000} {
		want := api.OK
		if n < 1 || n > 64 {
			want = api.ErrSchemaCase
		}
		names := slices.Repeat([]string{"text"}, n)
		var words []string
		for i := range n {
			words = append(words, strconv.Itoa(i))
		}
		refused(t, []api.Type{keyed("x", names...)}, want, 0)
		refused(t, []api.Type{enum("x", words...)}, want, 0)
		if n != 1 {
			refused(t, []api.Type{kinded("x", names...)}, api.ErrSchemaCase, 0)
		}
	}
	// Too many cases are told ahead of a ring, kinds that meet behind it.
	ring := rename("r", ref("r"))
	refused(t, []api.Type{ring, kinded("x", slices.Repeat([]string{"text"}, 65)...)}, api.ErrSchemaCase, 1)
	refused(t, []api.Type{ring, kinded("x", slices.Repeat([]string{"text"}, 64)...)}, api.ErrSchemaRing, 0)
	refused(t, []api.Type{ring, kinded("x")}, api.ErrSchemaCase, 1)
	for _, good := range []string{"", "a b", "\u00e4", "\x00", "\U0010ffff", strings.Repeat("k", 5000), "K0", "any"} {
		taken(t, changed([]api.Type{keyed("x", "int", "int", "int")}, 0, func(x *api.Type) { x.Cases[1].Key = good }))
		taken(t, []api.Type{enum("x", "k0", good, "k2")})
	}
	for _, wrong := range []string{"k0", "k2", "\xff", "\xed\xbf\xbf", "a\x80", "\xe2\x82"} {
		refused(t, changed([]api.Type{keyed("x", "int", "int", "int")}, 0, func(x *api.Type) { x.Cases[1].Key = wrong }), api.ErrSchemaCase, 0)
		refused(t, []api.Type{enum("x", "k0", wrong, "k2")}, api.ErrSchemaCase, 0)
	}
	refused(t, []api.Type{enum("x", "", "a", "")}, api.ErrSchemaCase, 0)
	refused(t, changed([]api.Type{keyed("x", "int", "int")}, 0, func(x *api.Type) { x.Cases[0].Key, x.Cases[1].Key = "", "" }), api.ErrSchemaCase, 0)
	for at := range 2 {
		refused(t, changed([]api.Type{ring, kinded("x", "int", "text")}, 1, func(x *api.Type) { x.Cases[at].Key = "k" }), api.ErrSchemaCase, 1)
		refused(t, changed([]api.Type{ring, kinded("x", "int", "text")}, 1, func(x *api.Type) { x.Cases[at].Key = "\xff" }), api.ErrSchemaCase, 1)
	}
}

func TestRing(t *testing.T) {
	refused(t, []api.Type{rename("a", ref("a"))}, api.ErrSchemaRing, 0)
	refused(t, []api.Type{rename("a", null("a"))}, api.ErrSchemaRing, 0)
	refused(t, []api.Type{whole("w", 0, 0), rename("a", ref("b")), rename("b", ref("c")), rename("c", ref("a"))}, api.ErrSchemaRing, 1)
	// What leads into a ring has no end either.
	refused(t, []api.Type{whole("w", 0, 0), rename("in", ref("a")), rename("a", ref("a"))}, api.ErrSchemaRing, 1)
	refused(t, []api.Type{rename("w", ref("int")), rename("a", ref("a")), rename("in", ref("a"))}, api.ErrSchemaRing, 1)
	refused(t, []api.Type{list("l", ref("a"), 0, 0), rename("in", ref("a")), rename("a", ref("b")), rename("b", ref("a"))}, api.ErrSchemaRing, 1)
	// Rings that do not go by names of names alone may be.
	for _, x := range []api.Type{list("a", ref("b"), 0, 1), mapping("a", ref("b"), 1, 1), record("a", ref("b")), tuple("a", null("b")), keyed("a", "b"), kinded("a", "int")} {
		hold(t, []api.Type{x, rename("b", ref("a"))})
		taken(t, []api.Type{x, rename("b", ref("a"))})
	}
	// The longest row of names that ends, and the longest ring.
	var row []api.Type
	for i := range 64 {
		row = append(row, rename("n"+strconv.Itoa(i), ref("n"+strconv.Itoa(i+1))))
	}
	row[63].Of = ref("text")
	hold(t, row)
	taken(t, row)
	row[63].Of = ref("n0")
	refused(t, row, api.ErrSchemaRing, 0)
	row[63].Of = ref("n63")
	refused(t, row, api.ErrSchemaRing, 0)
	slices.Reverse(row)
	refused(t, row, api.ErrSchemaRing, 0)
}

func TestNull(t *testing.T) {
	names := []api.Type{
		rename("t", ref("text")), rename("tt", ref("t")), rename("n", null("text")), rename("nn", ref("n")),
		rename("a", ref("any")), rename("aa", ref("a")), rename("z", ref("null")), rename("zz", ref("z")),
		kinded("k", "int", "text"), rename("kk", null("k")), list("l", null("text"), 0, 1),
	}
	taken(t, names)
	takes := strings.Fields("any null n nn a aa z zz kk")
	for _, name := range append(plain(names).names(), "x") {
		want := api.OK
		if slices.Contains(takes, name) {
			want = api.ErrSchemaNull
		}
		for _, x := range []api.Type{
			rename("x", null(name)), list("x", null(name), 0, 1), mapping("x", null(name), 0, 1),
			record("x", ref("int"), null(name)), tuple("x", null(name), ref("int")),
		} {
			if name == "x" && x.Kind == api.TypeName {
				continue
			}
			place := len(names)
			if want == api.OK {
				place = 0
			}
			refused(t, append(again(names), x), want, place)
			hold(t, append(again(names), x))
		}
		// A name in a case, and a reference that does not ask for null, may name what takes null.
		taken(t, append(again(names), keyed("x", name), list("y", ref(name), 0, 1)))
	}
}

func TestKindsApart(t *testing.T) {
	names := []api.Type{
		whole("w", 0, 1), list("l", ref("int"), 0, 1), mapping("m", ref("int"), 0, 1), record("r"), tuple("u"), keyed("k", "int"), enum("e", "a"), kinded("d", "bool", "link"),
		rename("n", ref("text")), rename("nn", ref("n")), rename("maybe", null("text")), rename("dd", ref("d")), rename("all", ref("any")), rename("ll", ref("l")),
	}
	taken(t, names)
	kinds := map[string]int{
		"w": 3, "int": 3, "l": 8, "u": 8, "ll": 8, "m": 9, "r": 9, "k": 9, "e": 5, "text": 5, "n": 5, "nn": 5,
		"bool": 2, "float": 4, "single": 4, "bytes": 6, "link": 7,
	}
	all := plain(names).names()
	for _, a := range all {
		refused(t, append(again(names), kinded("x", a)), errorIf(kinds[a] == 0), 14*int(min(1, errorIf(kinds[a] == 0))))
		for _, b := range all {
			met := kinds[a] == 0 || kinds[b] == 0 || kinds[a] == kinds[b]
			refused(t, append(again(names), kinded("x", a, b)), errorIf(met), 14*int(min(1, errorIf(met))))
			hold(t, append(again(names), kinded("x", "bytes", a, b)))
		}
	}
	taken(t, append(again(names), kinded("x", "bool", "w", "float", "e", "bytes", "link", "l", "r")))
	refused(t, append(again(names), kinded("x", "bool", "w", "float", "e", "bytes", "link", "l", "r", "null")), api.ErrSchemaCase, 14)
	refused(t, append(again(names), kinded("x", "bool", "w", "float", "e", "bytes", "link", "l", "r", "m")), api.ErrSchemaCase, 14)
	refused(t, []api.Type{kinded("x", "x")}, api.ErrSchemaCase, 0)
	refused(t, []api.Type{whole("w", 0, 0), kinded("x", "y"), kinded("y", "x")}, api.ErrSchemaCase, 1)
	refused(t, []api.Type{kinded("x", "int", "y"), rename("y", ref("x"))}, api.ErrSchemaCase, 0)
}

func errorIf(wrong bool) api.Errno {
	if wrong {
		return api.ErrSchemaCase
	}
	return api.OK
}

// TestOrder: of two errors in one type, and of two in two types, which one comes first.
func TestOrder(t *testing.T) {
	field := api.Field{Name: "f", Key: "f", Of: ref("nope")}
	both := api.Field{Name: "", Key: "\xff", Of: ref("nope")}
	for i, c := range []struct {
		x    api.Type
		want api.Errno
	}{
		{api.Type{Name: "int", Kind: 10, Lo: 2, Of: ref("nope")}, api.ErrSchemaName},
		{api.Type{Name: "", Kind: api.TypeList, Lo: 2, Of: ref("nope")}, api.ErrSchemaName},
		{api.Type{Name: "x", Kind: 10, Lo: 2, Of: ref("nope")}, api.ErrSchemaKind},
		{api.Type{Name: "x", Kind: api.TypeList, Lo: 2, Of: ref("nope"), Words: []string{"a"}}, api.ErrSchemaKind},
		{api.Type{Name: "x", Kind: api.TypeStruct, Fields: []api.Field{field}, Cases: []api.Case{{}}}, api.ErrSchemaKind},
		{api.Type{Name: "x", Kind: api.TypeEnum, Hi: -1}, api.ErrSchemaKind},
		{api.Type{Name: "x", Kind: api.TypeKinded, Of: null("")}, api.ErrSchemaKind},
		{api.Type{Name: "x", Kind: api.TypeList, Lo: 2, Of: ref("nope")}, api.ErrSchemaRange},
		{api.Type{Name: "x", Kind: api.TypeMap, Lo: -1, Of: null("any")}, api.ErrSchemaRange},
		{api.Type{Name: "x", Kind: api.TypeStruct, Fields: []api.Field{both}}, api.ErrSchemaRef},
		{api.Type{Name: "x", Kind: api.TypeStruct, Fields: slices.Repeat([]api.Field{field}, 65)}, api.ErrSchemaRef},
		{api.Type{Name: "x", Kind: api.TypeTuple, Fields: []api.Field{field}}, api.ErrSchemaRef},
		{api.Type{Name: "x", Kind: api.TypeKinded, Cases: []api.Case{{Key: "k", Name: "nope"}}}, api.ErrSchemaRef},
		{api.Type{Name: "x", Kind: api.TypeKeyed, Cases: []api.Case{{Key: "\xff", Name: "nope"}}}, api.ErrSchemaRef},
		{api.Type{Name: "x", Kind: api.TypeStruct, Fields: []api.Field{{Name: "", Of: null("any")}}}, api.ErrSchemaField},
		{api.Type{Name: "x", Kind: api.TypeKinded, Cases: []api.Case{{Key: "k", Name: "any"}}}, api.ErrSchemaCase},
	} {
		refused(t, []api.Type{c.x}, c.want, 0)
		hold(t, []api.Type{c.x})
		// An earlier type's error of the same look comes first, whatever it is; one of a later look does not.
		refused(t, []api.Type{enum("e"), c.x}, api.ErrSchemaCase, 0)
		refused(t, []api.Type{c.x, {}}, c.want, 0)
		refused(t, []api.Type{rename("r", ref("r")), c.x}, c.want, 1)
		refused(t, []api.Type{rename("r", null("any")), c.x}, c.want, 1)
		refused(t, []api.Type{kinded("r", "any"), c.x}, c.want, 1)
		if t.Failed() {
			t.Fatalf("case %d", i)
		}
	}
	// The third look comes ahead of the fourth; of the fourth the earlier type, and of one type null.
	refused(t, []api.Type{rename("n", null("any")), kinded("k", "any"), rename("r", ref("r"))}, api.ErrSchemaRing, 2)
	refused(t, []api.Type{kinded("k", "any"), rename("n", null("any"))}, api.ErrSchemaCase, 0)
	refused(t, []api.Type{rename("n", null("any")), kinded("k", "any")}, api.ErrSchemaNull, 0)
	refused(t, []api.Type{kinded("k", "n"), rename("n", null("any"))}, api.ErrSchemaCase, 0)
}

func TestFilled(t *testing.T) {
	maybe := func(x api.Type, places ...int) api.Type {
		for _, at := range places {
			x.Fields[at].Maybe = true
		}
		return x
	}
	for i, c := range []struct {
		types []api.Type
		want  bool // of the type x
	}{
		{[]api.Type{whole("x", 5, 5)}, true}, {[]api.Type{enum("x", "")}, true}, {[]api.Type{rename("x", ref("null"))}, true},
		{[]api.Type{list("x", ref("x"), 0, 0)}, true}, {[]api.Type{list("x", ref("x"), 0, 9)}, true}, {[]api.Type{list("x", ref("x"), 1, 9)}, false}, {[]api.Type{list("x", null("x"), 1, 1)}, true}, {[]api.Type{list("x", ref("int"), 7, 7)}, true},
		{[]api.Type{mapping("x", ref("x"), 0, 9)}, true}, {[]api.Type{mapping("x", ref("x"), 1, 9)}, false}, {[]api.Type{mapping("x", null("x"), 1, 9)}, true}, {[]api.Type{mapping("x", ref("any"), 1, 1)}, true},
		{[]api.Type{record("x")}, true}, {[]api.Type{record("x", ref("int"), ref("x"))}, false}, {[]api.Type{maybe(record("x", ref("x"), ref("int")), 0)}, true}, {[]api.Type{maybe(record("x", ref("x"), ref("x")), 0)}, false}, {[]api.Type{record("x", null("x"))}, true},
		{[]api.Type{tuple("x")}, true}, {[]api.Type{tuple("x", ref("int"), ref("x"))}, false}, {[]api.Type{maybe(tuple("x", ref("int"), ref("x")), 1)}, true}, {[]api.Type{tuple("x", null("x"))}, true},
		{[]api.Type{keyed("x", "x")}, false}, {[]api.Type{keyed("x", "x", "int")}, true}, {[]api.Type{keyed("x", "x", "x")}, false},
		{[]api.Type{kinded("x", "l"), list("l", ref("x"), 1, 1)}, false}, {[]api.Type{kinded("x", "l", "int"), list("l", ref("x"), 1, 1)}, true},
		{[]api.Type{rename("x", ref("y")), record("y", ref("x"))}, false}, {[]api.Type{rename("x", null("y")), record("y", ref("y"))}, true}, {[]api.Type{rename("x", null("y")), record("y", ref("x"))}, true},
		{[]api.Type{keyed("x", "y"), rename("y", null("z")), tuple("z", ref("z"))}, true},
		{[]api.Type{record("x", ref("y")), record("y", ref("z")), record("z", ref("y"))}, false},
		{[]api.Type{record("x", ref("y"), ref("w")), record("y"), record("w", ref("x"))}, false},
	} {
		if hold(t, c.types) != api.OK {
			t.Fatalf("case %d: refused", i)
		}
		x, _ := Open(c.types)
		if x.Filled("x") != c.want {
			t.Errorf("P11.4: case %d: %v", i, !c.want)
		}
	}
	// A row of types in which each is filled by the next one alone, and the same without an end, in both orders.
	for _, last := range []api.Type{tuple("x63", ref("int")), tuple("x63", ref("x0"))} {
		var row []api.Type
		for i := range 63 {
			row = append(row, tuple("x"+strconv.Itoa(i), ref("x"+strconv.Itoa(i+1))))
		}
		row = append(row, last)
		for range 2 {
			hold(t, row)
			x, _ := Open(row)
			if x.Filled("x0") != (last.Fields[0].Of.Name == "int") {
				t.Errorf("P11.4: a row of 64")
			}
			slices.Reverse(row)
		}
	}
}

// TestPairs: all lists of two types out of a few that speak of one another.
func TestPairs(t *testing.T) {
	var makes []func(string) api.Type
	for _, r := range []api.Ref{ref("a"), ref("b"), null("a"), null("b"), ref("any"), null("int"), null("null"), ref("c")} {
		makes = append(makes,
			func(n string) api.Type { return rename(n, r) },
			func(n string) api.Type { return list(n, r, 0, 1) },
			func(n string) api.Type { return mapping(n, r, 1, 1) },
			func(n string) api.Type { return record(n, ref("b"), r) },
			func(n string) api.Type { return tuple(n, r) })
	}
	for _, name := range []string{"a", "b", "any", "int", "c"} {
		makes = append(makes,
			func(n string) api.Type { return keyed(n, name) },
			func(n string) api.Type { return keyed(n, "b", name) },
			func(n string) api.Type { return kinded(n, name) },
			func(n string) api.Type { return kinded(n, "int", name) })
	}
	makes = append(makes, func(n string) api.Type { return whole(n, 0, 0) }, func(n string) api.Type { return enum(n, "b") }, func(n string) api.Type { return enum(n) })
	found := map[api.Errno]int{}
	for _, one := range makes {
		for _, two := range makes {
			found[hold(t, []api.Type{one("a"), two("b")})]++
			found[hold(t, []api.Type{one("b"), two("a")})]++
		}
		if t.Failed() {
			t.FailNow()
		}
	}
	if found[api.OK] < 1000 || found[api.ErrSchemaRing] < 10 || found[api.ErrSchemaNull] < 100 || found[api.ErrSchemaCase] < 100 {
		t.Errorf("too few of a kind: %v", found)
	}
}

// TestRolled: many lists of any kinds, most of them with something wrong in them.
func TestRolled(t *testing.T) {
	d := sample.Dice(11)
	found := map[api.Errno]int{}
	for i := range 60000 {
		types := rolled(&d, 1+d.Below(7))
		for range max(0, d.Below(5)-2) {
			spoil(&d, types)
		}
		found[hold(t, types)]++
		if t.Failed() {
			t.Fatalf("list %d", i)
		}
	}
	for _, e := range []api.Errno{api.OK, api.ErrSchemaName, api.ErrSchemaKind, api.ErrSchemaRange, api.ErrSchemaRef, api.ErrSchemaField, api.ErrSchemaCase, api.ErrSchemaRing, api.ErrSchemaNull} {
		if found[e] < 300 {
			t.Errorf("error %d was met %d times", e, found[e])
		}
	}
}

// told: all that a table tells of the names of a list, as a text.
func told(x *Table, names []string) string {
	var b strings.Builder
	for _, name := range names {
		y, is := x.Find(name)
		z, has := x.Base(name)
		fmt.Fprintf(&b, "%s: %v %v %v %v %v\n", name, y, is, z, has, x.Filled(name))
	}
	return b.String()
}

// good tells a list that may be, of n types.
func good(d *sample.Dice, n int) []api.Type {
	for {
		types := rolled(d, n)
		if e, _ := Check(types); e == api.OK {
			return types
		}
	}
}

func TestFollows(t *testing.T) {
	d := sample.Dice(12)
	more := 0
	for range 2000 {
		types := good(&d, 1+d.Below(5))
		x, _ := Open(types)
		names := x.Names()
		was := told(x, names)
		for _, y := range types {
			for _, r := range plainRefs(y) {
				if _, is := x.Find(r.Name); !is || !slices.Contains(names, r.Name) {
					t.Fatalf("P11.6: %s names %s", y.Name, r.Name)
				}
			}
		}
		for _, name := range names {
			base, _ := x.Base(name)
			if base.Kind == api.TypeName || x.Filled(name) != (x.Filled(base.Name) || plain(types).takesNull(name)) {
				t.Fatalf("P11.6: %s of %v", name, types)
			}
		}
		other := again(types)
		for i := range other {
			j := d.Below(i + 1)
			other[i], other[j] = other[j], other[i]
		}
		taken(t, other)
		if y, _ := Open(other); told(y, names) != was || !slices.Equal(y.Names(), names) {
			t.Fatalf("P11.6: in another order: %v", other)
		}
		longer := append(again(types), rolledType(&d, "more", len(types)))
		if y, e := Open(longer); e == api.OK {
			more++
			if told(y, names) != was || len(y.Names()) != len(names)+1 {
				t.Fatalf("P11.6: with one more: %v", longer)
			}
		}
	}
	if more < 500 {
		t.Errorf("one more type was taken %d times", more)
	}
}

// scribble writes over a list of types and all that stands in it, spare room too.
func scribble(types []api.Type) {
	for i := range types[:cap(types)] {
		x := &types[:cap(types)][i]
		for j := range x.Fields[:cap(x.Fields)] {
			x.Fields[:cap(x.Fields)][j] = api.Field{Name: "gone", Key: "gone", Of: null("gone"), Maybe: true}
		}
		for j := range x.Cases[:cap(x.Cases)] {
			x.Cases[:cap(x.Cases)][j] = api.Case{Key: "gone", Name: "gone"}
		}
		for j := range x.Words[:cap(x.Words)] {
			x.Words[:cap(x.Words)][j] = "gone"
		}
		*x = api.Type{Name: "gone", Kind: api.TypeName, Of: null("gone")}
	}
}

// TestMemory: the list is written over behind Open, the answers behind each call; with Filled asked ahead of that, and behind it.
func TestMemory(t *testing.T) {
	d := sample.Dice(13)
	for i := range 600 {
		types := again(good(&d, 1+d.Below(5)))
		if i == 0 {
			types = again(append(eachKind("x")[4:5], keyed("k", "int"), enum("e", "a", "b"), tuple("u", ref("u"))))
		}
		kept := again(types)
		x, _ := Open(types)
		y, _ := Open(types)
		if !reflect.DeepEqual(types, kept) {
			t.Fatalf("R2: the list has changed: %v", types)
		}
		names := x.Names()
		was := told(x, names)
		scribble(types)
		if now := told(y, names); now != was {
			t.Fatalf("R2: the list was written over:\n%s\n%s", was, now)
		}
		for _, name := range plain(kept).names() {
			for _, find := range []func(string) (api.Type, bool){x.Find, x.Base} {
				a, _ := find(name)
				b, _ := find(name)
				scribble([]api.Type{a})
				want, _ := y.Find(b.Name)
				if !same(b, want) {
					t.Fatalf("R2: two answers share memory: %v", b)
				}
			}
		}
		list := x.Names()
		clear(list[:cap(list)])
		if now := told(x, names); now != was || !slices.Equal(x.Names(), names) || told(y, names) != was {
			t.Fatalf("R2: answers were written over:\n%s\n%s", was, now)
		}
	}
}

// TestApart: two tables have nothing in common, and what one has told does not hang on the other.
func TestApart(t *testing.T) {
	one, _ := Open([]api.Type{tuple("x", ref("y")), whole("y", 0, 0)})
	two, _ := Open([]api.Type{tuple("x", ref("y")), rename("y", ref("z")), tuple("z", ref("x"))})
	for range 2 {
		if !one.Filled("x") || two.Filled("x") || one.Filled("z") || !one.Filled("y") || two.Filled("y") {
			t.Errorf("P11.5: two tables")
		}
	}
	if y, is := one.Base("y"); !is || y.Kind != api.TypeInt {
		t.Errorf("P11.5: Base of the first: %v", y)
	}
	if y, is := two.Base("y"); !is || y.Name != "z" {
		t.Errorf("P11.5: Base of the second: %v", y)
	}
}

// TestGoroutines: the first question comes from many at a time.
func TestGoroutines(t *testing.T) {
	d := sample.Dice(14)
	for range 200 {
		types := good(&d, 5)
		alone, _ := Open(types)
		names := alone.Names()
		want := told(alone, names)
		x, _ := Open(types)
		var wait sync.WaitGroup
		var tells [8]string
		for i := range tells {
			wait.Go(func() { tells[i] = told(x, names) + strings.Join(x.Names(), " ") })
		}
		wait.Wait()
		for _, tell := range tells {
			if tell != want+strings.Join(names, " ") {
				t.Fatalf("P11.5: %s", tell)
			}
		}
	}
}

// TestLarge: lists of fields, cases, words and texts that are far too long.
func TestLarge(t *testing.T) {
	n := 1 << 18
	refused(t, []api.Type{record("x", refs(n)...)}, api.ErrSchemaField, 0)
	refused(t, []api.Type{record("x", append(refs(n), ref("nope"))...)}, api.ErrSchemaRef, 0)
	refused(t, []api.Type{keyed("x", slices.Repeat([]string{"any"}, n)...)}, api.ErrSchemaCase, 0)
	refused(t, []api.Type{enum("x", make([]string, n)...)}, api.ErrSchemaCase, 0)
	refused(t, []api.Type{whole(strings.Repeat("n", n), 0, 0)}, api.ErrSchemaName, 0)
	refused(t, []api.Type{rename("x", ref(strings.Repeat("n", n)))}, api.ErrSchemaRef, 0)
	refused(t, make([]api.Type, n), api.ErrSchemaMany, 0)
	// The most that may be.
	var types []api.Type
	for i := range 64 {
		var of []api.Ref
		for j := range 64 {
			of = append(of, ref("x"+strconv.Itoa((i+j+1)%64)))
		}
		types = append(types, tuple("x"+strconv.Itoa(i), of...))
	}
	hold(t, types)
	types[63] = whole("x63", 0, 0)
	hold(t, types)
	for i := range 63 {
		types[i] = keyed("x"+strconv.Itoa(i), "x"+strconv.Itoa(i+1))
	}
	hold(t, types)
}
