package typed

import (
	"bytes"
	"fmt"
	"math"
	"reflect"
	"slices"
	"strconv"
	"strings"
	"sync"
	"testing"

	"trellis/api"
	"trellis/lay"
	"trellis/read"
	"trellis/sample"
	"trellis/schema"
	"trellis/value"
)

// alike: the same plain data, where a nil list and an empty one are one.
func alike(x, y api.Typed) bool { return reflect.DeepEqual(againTyped(x), againTyped(y)) }

func alikeTrees(v, w api.Value) bool { return reflect.DeepEqual(sample.Again(v), sample.Again(w)) }

// open tells the table of types that may be.
func open(t *testing.T, p types) *schema.Table {
	t.Helper()
	x, e := schema.Open(p)
	if e != api.OK {
		_, at := schema.Check(p)
		t.Fatalf("no table: %d at %d: %v", e, at, p[at])
	}
	return x
}

// formOf tells the form of a tree.
func formOf(t *testing.T, v api.Value) []byte {
	t.Helper()
	b, e := lay.Encode(v)
	if e != api.OK {
		t.Fatalf("no form: %d", e)
	}
	return b
}

// expect fails if a value is not told so by a name, by Read and, if it is a tree, by Decode; what is told is written back.
func expect(t *testing.T, x *schema.Table, name string, v api.Value, want api.Typed, code api.Errno, way []string) {
	t.Helper()
	before := sample.Again(v)
	y, e, w := Read(x, name, v)
	if e != code || !alike(y, want) || !slices.Equal(w, way) {
		t.Fatalf("P12.1: Read(%s, %+v): %+v, %d, %q; not %+v, %d, %q", name, v, y, e, w, want, code, way)
	}
	if !alikeTrees(v, before) {
		t.Fatalf("P12.7: Read has changed %+v", before)
	}
	if value.Check(v) != api.OK {
		return
	}
	b := formOf(t, v)
	y, f, w := Decode(x, name, b, value.Depth(v))
	if f != (api.Fault{Code: code}) || !alike(y, want) || !slices.Equal(w, way) {
		t.Fatalf("P12.3: Decode(%s, %x): %+v, %+v, %q; not %+v, %d, %q", name, b, y, f, w, want, code, way)
	}
	if code != api.OK {
		return
	}
	if !x.Filled(name) {
		t.Fatalf("P12.6: %s has %+v", name, v)
	}
	if u, e := Write(x, name, y); e != api.OK || !alikeTrees(u, value.Sorted(v)) {
		t.Fatalf("P12.5: Write(%s, %+v): %+v, %d; not %+v", name, y, u, e, value.Sorted(v))
	}
	if c, e := Encode(x, name, y); e != api.OK || !bytes.Equal(b, c) {
		t.Fatalf("P12.5: Encode(%s, %+v): %x, %d; not %x", name, y, c, e, b)
	}
}

// hold fails if a value is not told as the second reading tells it.
func hold(t *testing.T, x *schema.Table, p types, name string, v api.Value) (api.Typed, api.Errno) {
	t.Helper()
	want, code, way := p.read(name, v)
	expect(t, x, name, v, want, code, way)
	return want, code
}

// holdTyped fails if a typed tree is not written as the second reading writes it.
func holdTyped(t *testing.T, x *schema.Table, p types, name string, y api.Typed) api.Errno {
	t.Helper()
	want, code := p.write(name, y)
	before := againTyped(y)
	v, e := Write(x, name, y)
	if e != code || !alikeTrees(v, want) {
		t.Fatalf("P12.2: Write(%s, %+v): %+v, %d; not %+v, %d", name, y, v, e, want, code)
	}
	b, e := Encode(x, name, y)
	var form []byte
	if code == api.OK {
		form = formOf(t, want)
	}
	if e != code || !bytes.Equal(b, form) {
		t.Fatalf("P12.4: Encode(%s, %+v): %x, %d; not %x, %d", name, y, b, e, form, code)
	}
	if !reflect.DeepEqual(againTyped(y), before) {
		t.Fatalf("P12.7: Write has changed %+v", before)
	}
	if code != api.OK {
		return code
	}
	if z, e, _ := Read(x, name, v); e != api.OK || !alike(y, z) {
		t.Fatalf("P12.5: Read(%s, %+v): %+v, %d; not %+v", name, v, z, e, y)
	}
	return code
}

// refused fails if a typed tree is written.
func refused(t *testing.T, x *schema.Table, p types, name string, list ...api.Typed) {
	t.Helper()
	for i, y := range list {
		if e := holdTyped(t, x, p, name, y); e != api.ErrTypedForm {
			t.Errorf("P12.2: case %d of %s: %d", i, name, e)
		}
	}
}

// one tells a typed tree that holds a tree.
func one(name string, v api.Value) api.Typed { return api.Typed{Name: name, Value: v} }

// row tells a typed tree that has items.
func row(name string, items ...api.Typed) api.Typed { return api.Typed{Name: name, Items: items} }

func isNull(name string) api.Typed { return api.Typed{Name: name, Null: true} }

var none = api.Typed{None: true}

// TestExamples: the chapter's, one by one.
func TestExamples(t *testing.T) {
	p := chapter()
	x := open(t, p)
	n, f, s, l := integer, float, sample.Text, sample.List
	pair := func(a, b api.Value) api.Value { return dict("l,r", a, b) }
	for _, c := range []struct {
		name string
		v    api.Value
		want api.Typed
	}{
		{"small", n(-1), one("small", n(-1))},
		{"point", l(n(1), sample.Null()), row("point", one("int", n(1)), isNull("float"), none)},
		{"pair", pair(n(1), pair(n(2), sample.Null())), row("pair", one("int", n(1)), row("pair", one("int", n(2)), isNull("pair")))},
		{"both", s("x"), row("both", one("id", s("x")))},
		{"tag", dict("k", s("c")), row("tag", api.Typed{Name: "kind", Case: 1})},
		{"some", l(s("c"), s("ab")), row("some", api.Typed{Name: "kind", Case: 1}, api.Typed{Name: "kind"})},
	} {
		expect(t, x, c.name, c.v, c.want, api.OK, nil)
		hold(t, x, p, c.name, c.v)
	}
	for _, c := range []struct {
		name string
		v    api.Value
		way  string
	}{
		{"small", n(3), ""}, {"small", f(1), ""},
		{"point", l(n(1)), ""}, {"point", l(n(1), n(2)), "1"}, {"point", l(n(1), f(0.5), s("x"), s("y")), ""},
		{"pair", pair(n(1), pair(truth(true), sample.Null())), "r l"}, {"pair", pair(n(1), dict("l", truth(true))), "r"}, {"pair", dict("l", n(1)), ""},
		{"both", n(1), ""}, {"tag", dict("k", s("d")), "k"}, {"tag", dict("q", n(1)), ""}, {"tag", dict("k,p", s("c"), n(1)), ""},
		{"some", l(), ""}, {"some", l(s("c"), s("x")), "1"},
	} {
		expect(t, x, c.name, c.v, api.Typed{}, api.ErrTypedShape, strings.Fields(c.way))
		hold(t, x, p, c.name, c.v)
	}
	refused(t, x, p, "small", one("small", n(3)), one("int", n(1)), api.Typed{Name: "small", Value: n(1), Case: 1})
	for _, name := range x.Names() {
		if y, f, way := Decode(x, name, []byte{0x81}, 9); f != (api.Fault{Code: api.ErrReadShort, At: 1}) || len(way) != 0 || !alike(y, api.Typed{}) {
			t.Errorf("P12.3: Decode(%s, 81): %+v, %+v, %v", name, y, f, way)
		}
	}
	if b, e := Encode(x, "kind", api.Typed{Name: "kind", Case: 1}); e != api.OK || string(b) != "\x61\x63" {
		t.Errorf("P12.4: %x, %d", b, e)
	}
}

// TestNames: a name that the table does not have comes ahead of all else.
func TestNames(t *testing.T) {
	p := broad()
	x := open(t, p)
	for _, name := range []string{"", "nope", "Small", "small ", "smal", "TypeInt", "\xff", "f0", "l", "ANY", strings.Repeat("n", 5000)} {
		for _, v := range []api.Value{sample.Null(), {}, sample.Whole(1), sample.Text("\xff")} {
			expect(t, x, name, v, api.Typed{}, api.ErrTypedName, nil)
		}
		for _, y := range []api.Typed{{}, {Name: name}, one(name, sample.Whole(1)), {Name: "int", None: true}} {
			if e := holdTyped(t, x, p, name, y); e != api.ErrTypedName {
				t.Errorf("P12.2: Write(%q): %d", name, e)
			}
		}
		for _, depth := range []int{-1, 0, 9, 1025} {
			if y, f, way := Decode(x, name, []byte{0xff}, depth); f != (api.Fault{Code: api.ErrTypedName}) || len(way) != 0 || !alike(y, api.Typed{}) {
				t.Errorf("P12.3: Decode(%q): %+v, %+v, %v", name, y, f, way)
			}
		}
	}
	// A table without types of its own, and one that was never opened, have the built-in ones.
	for _, y := range []*schema.Table{open(t, nil), new(schema.Table)} {
		for _, name := range plainOwn {
			for _, v := range sample.Leaves() {
				hold(t, y, nil, name, v)
			}
		}
		expect(t, y, "small", sample.Whole(1), api.Typed{}, api.ErrTypedName, nil)
	}
}

// TestNoTree: what is no tree is refused by every type, ahead of its shape.
func TestNoTree(t *testing.T) {
	x := open(t, broad())
	inf := sample.Float(math.Float64bits(math.Inf(1)))
	for _, v := range []api.Value{
		{}, {Kind: 10}, {Kind: -1}, {Kind: api.KindNull, Flag: true}, {Kind: api.KindText, Text: "ab", N: 1}, inf, sample.Text("\xff"), {Kind: api.KindLink},
		dict("l,l", sample.Whole(1), sample.Null()), {Kind: api.KindMap, Keys: []string{"l"}}, sample.Map("l r", sample.Whole(1), inf), sample.List(sample.Text("c"), api.Value{}),
		sample.List(sample.Text("x"), inf), sample.Within(sample.List(), 1024, "l"), sample.Within(sample.List(), 1024, "m"), sample.Within(sample.Null(), 70000, "l"),
	} {
		for _, name := range x.Names() {
			y, e, way := Read(x, name, v)
			if e != api.ErrTypedForm || len(way) != 0 || !alike(y, api.Typed{}) {
				t.Errorf("P12.1: Read(%s): %+v, %d, %v", name, y, e, way)
			}
			if v.Kind == api.KindNone {
				continue // in a typed tree, there is no Value then
			}
			if u, e := Write(x, name, one(name, v)); e != api.ErrTypedForm || !alikeTrees(u, api.Value{}) {
				t.Errorf("P12.2: Write(%s): %+v, %d", name, u, e)
			}
		}
	}
}

// TestOwn: what the built-in types take.
func TestOwn(t *testing.T) {
	p := broad()
	x := open(t, p)
	floats := []float64{0, math.Copysign(0, -1), 0.5, 0.1, 16777216, 16777217, math.MaxFloat32, math.MaxFloat64, math.SmallestNonzeroFloat32, math.SmallestNonzeroFloat64, 1e-40, float64(float32(0.1))}
	leaves := sample.Leaves()
	for _, f := range floats {
		leaves = append(leaves, float(f))
	}
	for _, v := range append(leaves, sample.List(), sample.Map(""), sample.List(sample.Null()), sample.Map("bb a", sample.Null(), dict("b,", truth(true), octets("x")))) {
		for _, name := range append(slices.Clone(plainOwn), "what", "void", "slim") {
			_, e := hold(t, x, p, name, v)
			own := map[string]string{"what": "any", "void": "null", "slim": "single"}[name]
			if own == "" {
				own = name
			}
			f := math.Float64frombits(v.Bits)
			is := own == "any" || v.Kind == plainKinds[own] && (own != "single" || float64(float32(f)) == f)
			if is != (e == api.OK) {
				t.Errorf("P12.1: %s of %+v: %d", name, v, e)
			}
			if is {
				expect(t, x, name, v, one(name, value.Sorted(v)), api.OK, nil)
			}
		}
	}
	// Numbers at the ends of their types, and one less and one more.
	for _, name := range []string{"nought", "least", "most", "wide", "small"} {
		b, _ := p.base(name)
		for _, near := range []int64{b.Lo, b.Hi, math.MinInt64, math.MaxInt64, 0} {
			for off := int64(-2); off <= 2; off++ {
				n := near + off // it may come round: that is a number, too
				code := api.ErrTypedShape
				if n >= b.Lo && n <= b.Hi {
					code = api.OK
				}
				if _, e := hold(t, x, p, name, integer(n)); e != code {
					t.Errorf("P12.1: %s of %d: %d", name, n, e)
				}
			}
		}
		for _, n := range []uint64{1 << 63, 1<<63 + 1, math.MaxUint64 - 1, math.MaxUint64} {
			for _, neg := range []bool{false, true} {
				expect(t, x, name, api.Value{Kind: api.KindInt, Neg: neg, N: n}, api.Typed{}, api.ErrTypedShape, nil)
			}
		}
	}
}

// TestLengths: lists and maps at the ends of their types' lengths, and one less and one more.
func TestLengths(t *testing.T) {
	for lo := int64(0); lo < 4; lo++ {
		for _, hi := range []int64{lo, lo + 1, 5, math.MaxInt64} {
			p := types{listType("l", ref("int"), lo, hi), mapType("m", ref("int"), lo, hi)}
			x := open(t, p)
			for n := range int64(8) {
				l, m := sample.List(), sample.Map("")
				for i := range n {
					l.Items = append(l.Items, integer(i))
					m.Keys, m.Items = append(m.Keys, strconv.Itoa(int(7*i%11))), append(m.Items, integer(i))
				}
				code := api.ErrTypedShape
				if n >= lo && n <= hi {
					code = api.OK
				}
				for name, v := range map[string]api.Value{"l": l, "m": m} {
					if _, e := hold(t, x, p, name, v); e != code {
						t.Errorf("P12.1: %s of %d items from %d to %d: %d", name, n, lo, hi, e)
					}
				}
				expect(t, x, "l", m, api.Typed{}, api.ErrTypedShape, nil)
				expect(t, x, "m", l, api.Typed{}, api.ErrTypedShape, nil)
			}
		}
	}
}

// TestFields: fields that may be null, may be left out, may be neither and both, of structs and tuples.
func TestFields(t *testing.T) {
	for set := range 16 {
		var of []api.Ref
		keys := "bb,"
		if set&1 > 0 {
			keys = "bb?,"
		}
		if keys += "a"; set&2 > 0 {
			keys += "?"
		}
		for _, bit := range []int{4, 8} {
			of = append(of, api.Ref{Name: "small", Null: set&bit > 0})
		}
		p := types{structType("s", keys, of...), tupleType("u", 2-min(set&3, 2), of...), intType("small", -1, 2)}
		x := open(t, p)
		if set&3 == 1 { // a field of a tuple that is not Maybe does not stand behind one that is
			p[1].Fields[0].Maybe, p[1].Fields[1].Maybe = false, true
			x = open(t, p)
		}
		choices := []api.Value{{}, sample.Null(), integer(2), integer(3), sample.Text("x")}
		for i, a := range choices {
			for j, b := range choices {
				m, l := sample.Map(""), sample.List()
				if i > 0 {
					m.Keys, m.Items, l.Items = append(m.Keys, "bb"), append(m.Items, a), append(l.Items, a)
				}
				if j > 0 {
					m.Keys, m.Items, l.Items = append(m.Keys, "a"), append(m.Items, b), append(l.Items, b)
				}
				ok := func(at int, item int) bool {
					return item == 2 || item == 1 && of[at].Null || item == 0 && p[0].Fields[at].Maybe
				}
				_, e := hold(t, x, p, "s", m)
				if (e == api.OK) != (ok(0, i) && ok(1, j)) {
					t.Errorf("P12.1: set %d, %+v: %d", set, m, e)
				}
				hold(t, x, p, "u", l)
				l.Items = append(l.Items, integer(2))
				hold(t, x, p, "u", l)
				m.Keys, m.Items = append(m.Keys, "b"), append(m.Items, integer(2))
				expect(t, x, "s", m, api.Typed{}, api.ErrTypedShape, nil)
			}
		}
	}
	// As many fields as may be, all of them, none, and each one left out.
	p := types{{Name: "s", Kind: api.TypeStruct}, {Name: "u", Kind: api.TypeTuple}}
	m, l := sample.Map(""), sample.List()
	for i := range api.MaxFields {
		f := api.Field{Name: "f" + strconv.Itoa(i), Of: ref("int"), Maybe: i >= 40}
		p[1].Fields = append(p[1].Fields, f)
		f.Key, f.Maybe = strconv.Itoa(i*37%64), i%5 == 0
		p[0].Fields = append(p[0].Fields, f)
		l.Items = append(l.Items, integer(int64(i)))
		m.Keys, m.Items = append(m.Keys, f.Key), append(m.Items, integer(int64(i)))
	}
	x := open(t, p)
	for n := range 65 {
		hold(t, x, p, "u", sample.List(l.Items[:n]...))
		hold(t, x, p, "s", api.Value{Kind: api.KindMap, Keys: m.Keys[:n], Items: m.Items[:n]})
		if n < 64 {
			v := sample.Again(m)
			v.Keys, v.Items = slices.Delete(v.Keys, n, n+1), slices.Delete(v.Items, n, n+1)
			if _, e := hold(t, x, p, "s", v); (e == api.OK) != (n%5 == 0) {
				t.Errorf("P12.1: without field %d: %d", n, e)
			}
		}
	}
}

// TestNull: by which names null is told, and as what.
func TestNull(t *testing.T) {
	p := broad()
	x := open(t, p)
	for name, want := range map[string]api.Typed{
		"nid": isNull("nid"), "nnid": isNull("nnid"), "opt": isNull("opt"), "ns": isNull("ns"), "still": isNull("still"),
		"null": one("null", sample.Null()), "void": one("void", sample.Null()), "any": one("any", sample.Null()), "what": one("what", sample.Null()),
	} {
		expect(t, x, name, sample.Null(), want, api.OK, nil)
		if want.Null {
			refused(t, x, p, name, one(name, sample.Null()), api.Typed{Name: name, Null: true, Value: sample.Null()}, api.Typed{Name: name, Null: true, Case: 1}, api.Typed{Name: name, Null: true, None: true})
		} else {
			refused(t, x, p, name, isNull(name), api.Typed{Name: name, Null: true, Value: sample.Null()})
		}
	}
	for _, name := range strings.Fields("bool int float single text bytes link nought small kind empty none dict unit pair nil point row tag both each id other slim loop hollow") {
		expect(t, x, name, sample.Null(), api.Typed{}, api.ErrTypedShape, nil)
		refused(t, x, p, name, isNull(name), one(name, sample.Null()))
	}
	text := sample.Text("x")
	expect(t, x, "nnid", text, one("nnid", text), api.OK, nil)
	expect(t, x, "other", text, api.Typed{}, api.ErrTypedShape, nil)
	expect(t, x, "opt", text, row("opt", one("id", text)), api.OK, nil)
	expect(t, x, "maybe", dict("", sample.Null()), row("maybe", isNull("nid")), api.OK, nil)
	expect(t, x, "maybe", dict("l", dict("", sample.Null())), api.Typed{Name: "maybe", Case: 1, Items: []api.Typed{row("maybe", isNull("nid"))}}, api.OK, nil)
	expect(t, x, "nulls", sample.List(sample.Null(), integer(2)), row("nulls", isNull("small"), one("small", integer(2))), api.OK, nil)
	// A reference that takes null, to a name of a name.
	q := types{nameType("a", ref("b")), nameType("b", ref("c")), listType("c", null("a"), 0, 2), nameType("d", null("a"))}
	y := open(t, q)
	expect(t, y, "a", sample.List(sample.Null(), sample.List()), row("a", isNull("a"), row("a")), api.OK, nil)
	expect(t, y, "a", sample.Null(), api.Typed{}, api.ErrTypedShape, nil)
	expect(t, y, "d", sample.List(sample.List()), row("d", row("a")), api.OK, nil)
	expect(t, y, "d", sample.Null(), isNull("d"), api.OK, nil)
}

// TestWay: the first place where a tree is not of its type, in the order of the form.
func TestWay(t *testing.T) {
	p := append(broad(), listType("odds", ref("odd"), 0, 99), mapType("trees", ref("both"), 0, 9))
	x := open(t, p)
	bad, c := sample.Text("x"), sample.Text("c")
	odd := func(keys string, items ...api.Value) api.Value { return dict(keys, items...) }
	var long []api.Value
	for range 12 {
		long = append(long, odd("bb,a", integer(1), c))
	}
	for _, k := range []struct {
		name string
		v    api.Value
		way  []string
	}{
		// The struct's fields are bb, a, b; its keys' order is a, b, bb.
		{"odd", odd("bb,a", bad, bad), []string{"a"}}, {"odd", odd("bb,a,b", bad, c, bad), []string{"b"}}, {"odd", odd("b,bb,a", odd("a,bb", c, bad), bad, c), []string{"b", "bb"}}, {"odd", odd("bb,a,b", bad, c, odd("a,bb", c, integer(1))), []string{"bb"}},
		{"odd", odd("bb,a,b", bad, bad, odd("a", bad)), []string{"a"}}, {"odd", odd("bb,a,b", bad, c, odd("a", bad)), []string{"b"}}, {"odd", odd("bb", bad), nil}, {"odd", odd("bb,a,q", bad, bad, bad), nil},
		{"odds", sample.List(append(slices.Clone(long), odd("bb,a", integer(9), c))...), []string{"12", "bb"}}, {"odds", sample.List(append(slices.Clone(long[:10]), bad, bad)...), []string{"10"}}, {"odds", sample.List(long[0], odd("a,bb,b", c, bad, odd("a,bb,b", c, integer(1), odd("a,bb", bad, bad)))), []string{"1", "b", "b", "a"}},
		{"dict", dict("zz,b", integer(7), integer(8)), []string{"b"}}, {"dict", dict("zz,b,y", integer(7), integer(8), bad), nil}, {"trees", dict("aa,b,", integer(1), dict("l,r", bad, integer(1)), c), []string{"b", "l"}}, {"trees", dict("aa,", integer(1), integer(1)), []string{""}},
		{"tag", dict("l", dict("l,r", integer(1), dict("r,l", bad, bad))), []string{"l", "r", "l"}}, {"maybe", dict("l", dict("l", dict("", integer(1)))), []string{"l", "l", ""}}, {"maybe", dict("l", dict("l", dict("q", integer(1)))), []string{"l", "l"}}, {"maybe", dict("l", sample.Null()), []string{"l"}},
		{"rows", sample.List(sample.List(), sample.List(sample.List(), sample.List(sample.List(), sample.List(), bad)), bad), []string{"1", "1", "2"}}, {"row", sample.List(c, sample.List(c, sample.List(bad, bad))), []string{"1", "1", "0"}}, {"row", sample.List(bad, sample.List(bad)), []string{"0"}},
		{"each", sample.List(c, sample.List(bad)), []string{"1", "0"}}, {"other", odd("bb,a", integer(5), c), []string{"bb"}}, {"opt", dict("l,r", integer(1), dict("l", bad)), []string{"r"}}, {"each", integer(3), nil}, {"each", float(0.1), nil}, {"each", bad, nil}, {"both", dict("l,r", bad, bad), []string{"l"}},
		{"couple", sample.List(sample.List(bad, dict("a", bad)), float(0.1)), []string{"1"}}, {"free", dict("r,l", dict("r,l", dict("q", bad), bad), bad), []string{"r", "r"}}, {"gap", dict("k,l", bad, bad), []string{"k"}}, {"gap", dict("k,l", integer(1), sample.List(sample.List())), []string{"l", "0"}},
	} {
		expect(t, x, k.name, k.v, api.Typed{}, api.ErrTypedShape, k.way)
		hold(t, x, p, k.name, k.v)
	}
	// As deep as a tree may be: 1024 lists about what is wrong.
	way := slices.Repeat([]string{"0"}, 1024)
	expect(t, x, "rows", sample.Within(bad, 1024, "l"), api.Typed{}, api.ErrTypedShape, way)
	expect(t, x, "dicts", sample.Within(sample.Null(), 1024, "m"), api.Typed{}, api.ErrTypedShape, slices.Repeat([]string{"k"}, 1024))
	_, e, _ := Read(x, "rows", sample.Within(sample.List(), 1023, "l"))
	if e != api.OK {
		t.Errorf("P12.1: 1024 lists: %d", e)
	}
}

// TestTold: how a type that is told by keys, by a tuple, by the kind of a tree, by its one key stands in a typed tree.
func TestTold(t *testing.T) {
	p := broad()
	x := open(t, p)
	c := api.Typed{Name: "kind", Case: 1}
	two := one("small", integer(2))
	odd := row("odd", two, c, none)
	for _, k := range []struct {
		name string
		v    api.Value
		want api.Typed
	}{
		{"odd", dict("a,bb", sample.Text("c"), integer(2)), odd},
		{"odd", dict("b,bb,a", dict("bb,a", integer(2), sample.Text("c")), integer(2), sample.Text("c")), row("odd", two, c, odd)},
		{"four", dict(",k", truth(true), sample.Null()), row("four", none, isNull("small"), none, one("bool", truth(true)))},
		{"four", dict("r,l,k,", sample.Null(), sample.Text(""), integer(2), truth(false)), row("four", one("text", sample.Text("")), two, isNull("int"), one("bool", truth(false)))},
		{"unit", sample.Map(""), row("unit")}, {"nil", sample.List(), row("nil")}, {"row", sample.List(), row("row", none, none)}, {"empty", sample.List(), row("empty")}, {"none", sample.Map(""), row("none")},
		{"row", sample.List(sample.Text("c"), sample.Null()), row("row", c, isNull("row"))}, {"row", sample.List(sample.Text("c"), sample.List()), row("row", c, row("row", none, none))},
		{"free", dict("r", sample.Map("")), row("free", none, row("free", none, none))},
		{"each", integer(2), row("each", two)}, {"each", truth(false), api.Typed{Name: "each", Case: 1, Items: []api.Typed{one("bool", truth(false))}}}, {"each", float(0.5), api.Typed{Name: "each", Case: 2, Items: []api.Typed{one("single", float(0.5))}}},
		{"each", sample.Text("c"), api.Typed{Name: "each", Case: 3, Items: []api.Typed{c}}}, {"each", octets("b"), api.Typed{Name: "each", Case: 4, Items: []api.Typed{one("bytes", octets("b"))}}}, {"other", sample.Link("l"), api.Typed{Name: "other", Case: 5, Items: []api.Typed{one("link", sample.Link("l"))}}},
		{"each", sample.List(), api.Typed{Name: "each", Case: 6, Items: []api.Typed{row("row", none, none)}}}, {"each", dict("a,bb", sample.Text("c"), integer(2)), api.Typed{Name: "each", Case: 7, Items: []api.Typed{odd}}},
		{"dict", dict("bb,a", sample.Null(), integer(2)), api.Typed{Name: "dict", Keys: []string{"a", "bb"}, Items: []api.Typed{two, isNull("small")}}},
		{"one", dict("r", dict("bb,a", integer(1), integer(2))), row("one", one("any", dict("a,bb", integer(2), integer(1))))},
		{"what", sample.List(dict("bb,a", integer(1), integer(2))), one("what", sample.List(dict("a,bb", integer(2), integer(1))))},
		{"blank", sample.Text("\u00e4"), api.Typed{Name: "blank", Case: 2}}, {"blank", sample.Text(""), api.Typed{Name: "blank"}},
	} {
		expect(t, x, k.name, k.v, k.want, api.OK, nil)
		hold(t, x, p, k.name, k.v)
	}
}

// small tells some thousands of trees of few parts, with keys that types of broad and of chapter have.
func small() []api.Value {
	leaves := []api.Value{
		sample.Null(), truth(false), truth(true), integer(-2), integer(-1), integer(0), integer(2), integer(3), integer(math.MinInt64), integer(math.MaxInt64), sample.Whole(1 << 63), float(0.5), float(0.1),
		sample.Text("ab"), sample.Text("c"), sample.Text("l"), sample.Text(""), octets(""), octets("c"), sample.Link("hi"),
	}
	few := []api.Value{sample.Null(), float(0.5), truth(true), integer(2), integer(3), sample.Text("c"), dict("k", sample.Text("c")), dict("r,l", sample.Null(), integer(2)), dict("", sample.Null())}
	keys := []string{"l", "r", "k", "a", "bb", "", "b", "p"}
	all := append(slices.Clone(leaves), sample.List(), sample.Map(""))
	for _, v := range leaves {
		all = append(all, sample.List(v), sample.List(v, v, v))
		for _, key := range keys {
			all = append(all, dict(key, v))
		}
	}
	for _, v := range few {
		all = append(all, sample.List(v))
		for i, w := range few {
			all = append(all, sample.List(v, w), sample.List(v, w, few[i*5%9]), sample.List(v, w, v, w))
			for j, key := range keys {
				for _, other := range keys[:j] {
					all = append(all, dict(key+","+other, v, w))
				}
			}
			all = append(all, dict("a,bb,b", v, w, dict("a,bb", w, v)), dict(",k,l", v, w, w), dict("r,k,", w, w, v), dict("k,r,l,", w, v, w, v))
		}
		for _, key := range keys {
			all = append(all, dict(key, v), dict(key, dict(key, v)), sample.List(dict(key, v)))
		}
	}
	return all
}

// TestSmall: these trees by all types; unlike trees are told as unlike typed trees.
func TestSmall(t *testing.T) {
	for _, p := range []types{broad(), chapter()} {
		x := open(t, p)
		all := small()
		for _, name := range x.Names() {
			forms := map[string]string{}
			taken := 0
			for _, v := range all {
				y, e := hold(t, x, p, name, v)
				if e != api.OK {
					continue
				}
				taken++
				told, form := fmt.Sprintf("%#v", againTyped(y)), string(formOf(t, v))
				if was, is := forms[told]; is && was != form {
					t.Fatalf("P12.5: %s: %x and %x are told alike: %s", name, was, form, told)
				}
				forms[told] = form
			}
			if (taken > 0) != x.Filled(name) {
				t.Errorf("P12.6: %s has %d trees here", name, taken)
			}
			follows(t, x, p, name, all)
		}
	}
}

// follows: what a name takes hangs on what it is a name of, and any, int, float take all of theirs.
func follows(t *testing.T, x *schema.Table, p types, name string, all []api.Value) {
	t.Helper()
	b, _ := p.find(name)
	for _, v := range all {
		_, e, _ := Read(x, name, v)
		if b.Kind == api.TypeName {
			_, f, _ := Read(x, b.Of.Name, v)
			null := v.Kind == api.KindNull && b.Of.Null
			if (e == api.OK) != (f == api.OK || null) {
				t.Fatalf("P12.6: %s of %+v: %d, but %s: %d", name, v, e, b.Of.Name, f)
			}
		}
		if takes := name == "any" || name == "int" && v.Kind == api.KindInt || name == "float" && v.Kind == api.KindFloat; takes && e != api.OK {
			t.Fatalf("P12.6: %s of %+v: %d", name, v, e)
		}
	}
}

// TestUnfilled: a type that is not filled takes nothing, whatever is tried.
func TestUnfilled(t *testing.T) {
	p := broad()
	x := open(t, p)
	for _, name := range []string{"loop", "never", "hollow", "void2"} {
		for n := range 20 {
			for _, how := range []string{"l", "m", "lm"} {
				v := sample.Within(sample.List(), n, how)
				if _, e := hold(t, x, p, name, v); e != api.ErrTypedShape {
					t.Errorf("P12.6: %s: %d", name, e)
				}
			}
			y := row(name)
			for range n {
				y = row(name, y)
			}
			refused(t, x, p, name, y, row(name, none), isNull(name))
		}
	}
	expect(t, x, "still", sample.Null(), isNull("still"), api.OK, nil)
	expect(t, x, "still", sample.List(sample.List()), api.Typed{}, api.ErrTypedShape, []string{"0"})
	expect(t, x, "gap", dict("k", integer(1)), row("gap", one("int", integer(1)), none), api.OK, nil)
}

// TestWrite: typed trees that Read tells of no tree.
func TestWrite(t *testing.T) {
	p := broad()
	x := open(t, p)
	two, c, i1 := one("small", integer(2)), api.Typed{Name: "kind", Case: 1}, one("int", integer(1))
	cased := func(name string, at int, items ...api.Typed) api.Typed {
		return api.Typed{Name: name, Case: at, Items: items}
	}
	keyed := func(keys string, items ...api.Typed) api.Typed {
		return api.Typed{Name: "dict", Keys: strings.Split(keys, ","), Items: items}
	}
	refused(t, x, p, "small", one("small", integer(3)), one("small", integer(-2)), one("int", integer(1)), one("", integer(1)), one("small", float(1)), api.Typed{Name: "small"}, isNull("small"), none, api.Typed{})
	refused(t, x, p, "kind", cased("kind", 2), cased("kind", -1), cased("kind", math.MaxInt), cased("kind", math.MinInt), one("kind", sample.Text("ab")), cased("kind", 1, c), row("kind"+"s"), isNull("kind"))
	refused(t, x, p, "some", row("some"), row("some", c, c, c), row("some", c, none), row("some", c, two), row("some", cased("id", 1)), api.Typed{Name: "some", Keys: []string{""}, Items: []api.Typed{c}}, cased("some", 1, c))
	refused(t, x, p, "dict", keyed("b,a", two, two), keyed("a,a", two, two), keyed("aa,b", two, two), keyed("a", two, two), keyed("a,b", two), keyed("\xff", two), keyed("a", none), keyed("a", c), keyed("a,b,c", two, two, two), api.Typed{Name: "dict"})
	refused(t, x, p, "odd", row("odd", two, c), row("odd", two, c, none, none), row("odd", two, none, none), row("odd", none, c, none), row("odd", c, two, none), row("odd", two, c, isNull("odd")), row("odd"), row("odd", two, c, api.Typed{None: true, Name: "odd"}), row("odd", two, c, api.Typed{None: true, Case: 1}), api.Typed{Name: "odd", Keys: []string{"a", "bb"}, Items: []api.Typed{two, c, none}})
	refused(t, x, p, "point", row("point", i1, isNull("float")), row("point", i1, none, none), row("point", i1, none, one("text", sample.Text(""))), row("point", i1, isNull("float"), isNull("text")), row("point", isNull("int"), isNull("float"), none))
	refused(t, x, p, "row", row("row", none, isNull("row")), row("row", none, row("row", none, none)), row("row", none), row("row"))
	refused(t, x, p, "mild", row("mild", isNull("int"), none, i1), row("mild", none, none, none))
	refused(t, x, p, "tag", cased("tag", 1, c), cased("tag", 2, c), cased("tag", -1, c), cased("tag", 0), cased("tag", 0, c, c), api.Typed{Name: "tag", Keys: []string{"k"}, Items: []api.Typed{c}}, c, row("tag", none), row("tag", isNull("kind")))
	refused(t, x, p, "both", cased("both", 1, one("id", sample.Text("x"))), one("id", sample.Text("x")), cased("both", 2, one("id", sample.Text("x"))), cased("both", -1, one("id", sample.Text("x"))), row("both", one("text", sample.Text("x"))), row("both"), isNull("both"), row("both", isNull("id")))
	refused(t, x, p, "each", row("each", cased("each", 0, two)), row("each", one("small", integer(3))), cased("each", 3, two), one("each", integer(2)))
	refused(t, x, p, "any", one("any", dict("bb,a", sample.Null(), sample.Null())), one("any", sample.List(dict("b,a", sample.Null(), sample.Null()))), one("any", float(math.Inf(1))), api.Typed{Name: "any"}, isNull("any"), one("what", integer(1)))
	refused(t, x, p, "what", one("any", integer(1)))
	refused(t, x, p, "nnid", one("nid", sample.Text("x")), one("text", sample.Text("x")), isNull("nid"), isNull("text"))
	refused(t, x, p, "single", one("single", float(0.1)), one("single", float(math.NaN())), one("float", float(0.5)))
	// Each field that a type does not set, set.
	d := sample.Dice(1)
	for range 40 {
		for _, b := range p {
			y, e, _ := Read(x, b.Name, p.tree(&d, ref(b.Name), 2))
			if e != api.OK {
				continue
			}
			for i, set := range []func(*api.Typed){
				func(y *api.Typed) { y.Name += "x" }, func(y *api.Typed) { y.Null = !y.Null }, func(y *api.Typed) { y.None = true }, func(y *api.Typed) { y.Case = -1 - y.Case },
				func(y *api.Typed) { y.Value.Flag, y.Value.Neg = !y.Value.Flag, true }, func(y *api.Typed) { y.Value.Kind += 20 }, func(y *api.Typed) { y.Keys = append(y.Keys, "zzzzzzzzz") }, func(y *api.Typed) { y.Items = append(y.Items, api.Typed{}) },
			} {
				z := againTyped(y)
				set(&z)
				if e := holdTyped(t, x, p, b.Name, z); e != api.ErrTypedForm {
					t.Errorf("P12.2: %s, set %d: %d", b.Name, i, e)
				}
			}
		}
	}
}

// TestDecode: bytes that read.Decode does not take, whatever the type; and the depth.
func TestDecode(t *testing.T) {
	p := broad()
	x := open(t, p)
	for _, b := range []string{"", "\x81", "\x18\x17", "\xf7", "\x01\x02", "\xa2\x61b\x01\x61a\x02", "\x61\xff", "\xff", "\xfb\x7f\xf0\x00\x00\x00\x00\x00\x00", "\xd8\x2a\x41\x01", "\x82\x61c\x61", "\x81\x61x\x00", "\x9b\xff\xff\xff\xff\xff\xff\xff\xff"} {
		for _, name := range x.Names() {
			for _, depth := range []int{-1, 0, 1, 9, 1024, 1025} {
				y, f, way := Decode(x, name, []byte(b), depth)
				_, want := read.Decode([]byte(b), depth)
				if f != want || f.Code == api.OK || len(way) != 0 || !alike(y, api.Typed{}) {
					t.Errorf("P12.3: Decode(%s, %x, %d): %+v, %+v, %v", name, b, depth, y, f, way)
				}
			}
		}
	}
	for n := range 6 {
		b := formOf(t, sample.Within(sample.List(), n, "l"))
		for depth := range 9 {
			_, f, _ := Decode(x, "rows", b, depth)
			want := api.Fault{}
			if depth <= n {
				want = api.Fault{Code: api.ErrReadDeep, At: depth}
			}
			if f != want {
				t.Errorf("P12.3: %d lists, depth %d: %+v", n+1, depth, f)
			}
		}
	}
	// Bytes of all kinds: what read.Decode takes is told by Read.
	d := sample.Dice(2)
	for range 20000 {
		name := p[d.Below(len(p))].Name
		b := formOf(t, p.tree(&d, ref(name), 2))
		if d.Below(2) == 0 {
			b[d.Below(len(b))] ^= 1 << d.Below(8)
		}
		depth := d.Below(7)
		before := bytes.Clone(b)
		y, f, way := Decode(x, name, b, depth)
		v, fault := read.Decode(b, depth)
		if !bytes.Equal(b, before) {
			t.Fatalf("P12.7: Decode has changed %x", before)
		}
		if fault != (api.Fault{}) {
			if f != fault || len(way) != 0 || !alike(y, api.Typed{}) {
				t.Fatalf("P12.3: Decode(%s, %x, %d): %+v, %+v, %v", name, b, depth, y, f, way)
			}
			continue
		}
		want, e, path := Read(x, name, v)
		if f != (api.Fault{Code: e}) || !alike(y, want) || !slices.Equal(way, path) {
			t.Fatalf("P12.3: Decode(%s, %x, %d): %+v, %+v, %v", name, b, depth, y, f, way)
		}
	}
}

// TestDeep: typed trees as deep as they may be, and deeper.
func TestDeep(t *testing.T) {
	p := append(broad(), kindedType("deep", "deeps", "bool"), listType("deeps", ref("deep"), 0, 1), listType("anys", ref("any"), 0, 1))
	x := open(t, p)
	for _, n := range []int{1022, 1023, 1024, 1025, 1026, 70000} {
		rows, deep := row("rows"), row("deep", row("deeps"))
		dicts := api.Typed{Name: "dicts"}
		for range n - 1 {
			rows, deep = row("rows", rows), row("deep", row("deeps", deep))
			dicts = api.Typed{Name: "dicts", Keys: []string{"k"}, Items: []api.Typed{dicts}}
		}
		code := api.OK
		if n > 1024 {
			code = api.ErrTypedForm
		}
		for _, y := range []api.Typed{rows, deep, dicts} {
			v, e := Write(x, y.Name, y)
			if e != code || code == api.OK && value.Depth(v) != n {
				t.Errorf("P12.2: %d in one another by %s: %d", n, y.Name, e)
			}
			if e == api.OK {
				holdTyped(t, x, p, y.Name, y)
			}
		}
	}
	// Lists of a type about lists of any, 1024 and 1025 in all; a leaf within 1024 of them.
	for _, n := range []int{0, 1, 1022, 1023, 1024} {
		y := row("anys", one("any", sample.Within(sample.Null(), n, "lm")))
		code := api.OK
		if n > 1023 {
			code = api.ErrTypedForm
		}
		if e := holdTyped(t, x, p, "anys", y); e != code {
			t.Errorf("P12.2: %d lists and one: %d", n, e)
		}
	}
	leaf := row("deep")
	leaf.Case, leaf.Items = 1, []api.Typed{one("bool", truth(true))}
	for range 1024 {
		leaf = row("deep", row("deeps", leaf))
	}
	if e := holdTyped(t, x, p, "deep", leaf); e != api.OK {
		t.Errorf("P12.2: a leaf in 1024 lists: %d", e)
	}
	if e := holdTyped(t, x, p, "deep", row("deep", row("deeps", leaf))); e != api.ErrTypedForm {
		t.Errorf("P12.2: a leaf in 1025 lists: %d", e)
	}
}

// TestEndless: typed trees and values that stand in themselves.
func TestEndless(t *testing.T) {
	x := open(t, append(broad(), kindedType("deep", "deeps", "bool"), listType("deeps", ref("deep"), 0, 9)))
	for _, name := range x.Names() {
		for _, n := range []int{1, 2, 3} {
			items := make([]api.Typed, n)
			values := make([]api.Value, n)
			keys := []string{"a", "b", "bb"}[:n]
			for i := range n {
				items[i] = api.Typed{Name: name, Items: items}
				values[i] = api.Value{Kind: api.KindList, Items: values}
			}
			for _, y := range []api.Typed{
				{Name: name, Items: items}, {Name: name, Keys: keys, Items: items}, {Name: name, Value: values[0]}, {Name: name, Null: true, Items: items}, {Name: name, None: true, Value: values[0], Items: items}, {Name: name, Case: 1, Items: items},
			} {
				if v, e := Write(x, name, y); e != api.ErrTypedForm || !alikeTrees(v, api.Value{}) {
					t.Errorf("P12.7: Write(%s) of an endless one: %d", name, e)
				}
			}
			if _, e, _ := Read(x, name, values[0]); e != api.ErrTypedForm {
				t.Errorf("P12.7: Read(%s) of an endless one: %d", name, e)
			}
		}
	}
}

// TestMemory: what is told shares no memory, neither with what was handed in nor within itself.
func TestMemory(t *testing.T) {
	p := append(broad(), listType("blobs", ref("blob"), 0, 9), kindedType("blob", "bytes", "all", "dicts"), mapType("anys", ref("any"), 0, 9))
	x := open(t, p)
	d := sample.Dice(3)
	taken := 0
	for range 400 {
		for _, b := range append(slices.Clone(p), api.Type{Name: "any"}, api.Type{Name: "bytes"}) {
			v := p.tree(&d, ref(b.Name), 3)
			if d.Below(2) == 0 {
				v = d.Mixed(v)
			}
			y, e, _ := Read(x, b.Name, v)
			if e != api.OK {
				continue
			}
			taken++
			z, _, _ := Read(x, b.Name, v)
			form := formOf(t, v)
			u, f, _ := Decode(x, b.Name, form, 1024)
			w, e := Write(x, b.Name, u)
			w2, e2 := Write(x, b.Name, u)
			if f != (api.Fault{}) || e != api.OK || e2 != api.OK {
				t.Fatalf("P12.5: %s of %+v: %+v, %d", b.Name, v, f, e)
			}
			for i := range form {
				form[i] = 0xff
			}
			if !alike(u, y) {
				t.Fatalf("P12.7: Decode of %s keeps the bytes", b.Name)
			}
			if !sample.TypedApart([]api.Typed{y, z, u}, v, w, w2) {
				t.Fatalf("P12.7: %s: memory in common", b.Name)
			}
		}
	}
	if taken < 5000 {
		t.Errorf("%d trees", taken)
	}
	bad := dict("a,b", integer(1), sample.Text("x"))
	_, _, one := Read(x, "dict", bad)
	_, _, two := Read(x, "dict", bad)
	one[0] = "q"
	if two[0] != "b" || bad.Keys[1] != "b" {
		t.Errorf("P12.7: a way is kept")
	}
}

// TestRolled: many lists of types, trees of them and nearly of them, typed trees altered in one place or two.
func TestRolled(t *testing.T) {
	d := sample.Dice(12)
	found := map[api.Errno]int{}
	steps := map[int]int{}
	for i := range 2500 {
		p := broad()
		if i%5 > 0 {
			p = rolledTypes(&d, 1+d.Below(6))
		}
		x := open(t, p)
		for range 12 {
			name := p[d.Below(len(p))].Name
			v := p.tree(&d, ref(name), 3)
			for range d.Below(3) {
				v = p.bent(&d, v)
			}
			v = d.Mixed(v)
			if d.Below(20) == 0 {
				v = d.Touched(v)
			}
			y, e := hold(t, x, p, name, v)
			_, _, way := Read(x, name, v)
			found[e]++
			steps[len(way)]++
			for range d.Below(3) {
				y = p.bentTyped(&d, y)
				found[-holdTyped(t, x, p, name, y)-1]++
			}
		}
	}
	if found[api.OK] < 5000 || found[api.ErrTypedShape] < 5000 || found[api.ErrTypedForm] < 100 || found[-1] < 500 || found[-1-api.ErrTypedForm] < 5000 || steps[1] < 1000 || steps[2] < 300 || steps[3] < 100 {
		t.Errorf("too few of a kind: %v, %v", found, steps)
	}
}

// TestTogether: several goroutines with one table.
func TestTogether(t *testing.T) {
	p := broad()
	x := open(t, p)
	d := sample.Dice(4)
	var all []api.Value
	for _, b := range p {
		all = append(all, p.tree(&d, ref(b.Name), 3))
	}
	var wait sync.WaitGroup
	for range 8 {
		wait.Go(func() {
			for i, b := range p {
				want, e, way := p.read(b.Name, all[i])
				y, f, w := Read(x, b.Name, all[i])
				if e != f || !alike(y, want) || !slices.Equal(way, w) {
					t.Errorf("P12.7: %s: %+v, %d", b.Name, y, f)
				}
			}
		})
	}
	wait.Wait()
}
