package value

import (
	"reflect"
	"runtime"
	"slices"
	"strconv"
	"testing"
	"unsafe"

	"trellis/api"
	"trellis/sample"
)

// TestExamples: the chapter's examples 1 and 5.
func TestExamples(t *testing.T) {
	m := sample.Map("b aa a", sample.Whole(1), sample.Whole(2), sample.Whole(3))
	if s := Sorted(m); !reflect.DeepEqual(s, sample.Map("a b aa", sample.Whole(3), sample.Whole(1), sample.Whole(2))) {
		t.Errorf("P6.3: %+v", s)
	}
	if v, ok := Find(m, "aa"); !ok || !reflect.DeepEqual(v, sample.Whole(2)) {
		t.Errorf("P6.4: %+v, %v", v, ok)
	}
	if !Equal(m, Sorted(m)) || Depth(m) != 1 {
		t.Error("P6.2")
	}
	if Equal(sample.Float(0), sample.Float(1<<63)) || Equal(sample.Whole(1), sample.Float(0x3ff0000000000000)) {
		t.Error("P6.2: floats")
	}
}

// TestDepth: P6.2.
func TestDepth(t *testing.T) {
	for _, v := range sample.Leaves() {
		for n := range 4 {
			if Depth(sample.Within(v, n, "lm")) != n {
				t.Errorf("P6.2: depth of %s in %d", written(v), n)
			}
		}
	}
	for _, c := range []struct {
		v api.Value
		n int
	}{
		{sample.List(), 1}, {sample.Map(""), 1}, {sample.List(sample.List()), 2}, {sample.List(sample.Map(""), sample.Null()), 2}, {sample.List(sample.Null(), sample.List(), sample.List(sample.Map("a", sample.List())), sample.Null()), 4},
		{sample.Map("b a", sample.List(), sample.Null()), 2}, {sample.Map("a b", sample.Null(), sample.List()), 2}, {sample.Within(sample.Null(), 1024, "lm"), 1024}, {sample.Within(sample.List(), 1023, "m"), 1024},
	} {
		if n := Depth(c.v); n != c.n {
			t.Errorf("P6.2: depth %d, not %d", n, c.n)
		}
	}
}

// TestEqualPairs: P6.2: each tree of a list against each.
func TestEqualPairs(t *testing.T) {
	all := sample.Leaves()
	for _, v := range sample.Leaves() {
		all = append(all, sample.List(v), sample.Map("a", v), sample.Map("b", v), sample.List(v, sample.Null()), sample.List(sample.Null(), v), sample.Map("a b", v, sample.Null()), sample.Map("b a", v, sample.Null()), sample.List(sample.List(v)))
	}
	all = append(all, sample.List(), sample.Map(""), sample.List(sample.List()), sample.List(sample.List(), sample.List()), sample.List(sample.Map("")), sample.Map("a", sample.List()), sample.Map("a", sample.Map("")),
		sample.Map("a b c", sample.Whole(1), sample.Whole(2), sample.Whole(3)), sample.Map("c b a", sample.Whole(3), sample.Whole(2), sample.Whole(1)), sample.Map("c b a", sample.Whole(1), sample.Whole(2), sample.Whole(3)), sample.Map("a b", sample.Whole(1), sample.Whole(2)), sample.Map("aa a", sample.Whole(1), sample.Whole(2)), sample.Map("a aa", sample.Whole(2), sample.Whole(1)),
		sample.Within(sample.Null(), 1024, "l"), sample.Within(sample.Null(), 1024, "m"), sample.Within(sample.Null(), 1023, "l"), sample.Within(sample.Whole(0), 1024, "l"))
	forms := make([]string, len(all))
	for i, v := range all {
		forms[i] = written(v)
	}
	for i, a := range all {
		for j, b := range all {
			if Equal(a, b) != (forms[i] == forms[j]) {
				t.Fatalf("P6.2: %s and %s: %v", forms[i], forms[j], Equal(a, b))
			}
		}
	}
}

// TestBefore: P6.3, P6.6: any two strings of few bytes, good UTF-8 or not.
func TestBefore(t *testing.T) {
	all := []string{""}
	for i := 0; len(all[i]) < 3; i++ {
		for _, c := range []byte{0, 'a', 'b', 0x7f, 0x80, 0xff} {
			all = append(all, all[i]+string([]byte{c}))
		}
	}
	for i, a := range all {
		for j, b := range all {
			// They have been made in keys' order.
			if Before(a, b) != (i < j) || ahead(a, b) != (i < j) {
				t.Fatalf("P6.3: %q, %q: %v", a, b, Before(a, b))
			}
		}
	}
}

// TestFind: P6.4.
func TestFind(t *testing.T) {
	d := sample.Dice(2)
	for range 6000 {
		v := d.Tree(3)
		for _, key := range append(slices.Clone(v.Keys), "", "a", "b", "zz", "\xff", "\x00") {
			at := slices.Index(v.Keys, key)
			want, ok := api.Value{}, false
			if v.Kind == api.KindMap && at >= 0 {
				want, ok = v.Items[at], true
			}
			if got, is := Find(v, key); is != ok || !reflect.DeepEqual(sample.Again(got), sample.Again(want)) {
				t.Fatalf("P6.4: %q in %s: %+v, %v", key, written(v), got, is)
			}
		}
	}
	// Of what is no map there are no keys.
	for kind := -1; kind <= 12; kind++ {
		v := sample.Map("a", sample.Whole(1))
		v.Kind = kind
		if got, ok := Find(v, "a"); ok != (kind == api.KindMap) || !ok && !reflect.DeepEqual(got, api.Value{}) {
			t.Errorf("P6.4: kind %d: %+v, %v", kind, got, ok)
		}
	}
}

// TestLinks: P6.5: in the form's order, as often as they stand there.
func TestLinks(t *testing.T) {
	v := sample.Map("bb a \u00e4 z", sample.Link("1"), sample.List(sample.Link("2"), sample.Map("y x", sample.Link("3"), sample.Link("4")), sample.Link("2")), sample.Link("5"), sample.Text("no"))
	got := ""
	for _, l := range Links(v) {
		got += l.Digest
	}
	if got != "243215" {
		t.Errorf("P6.5: %s", got)
	}
	for _, v := range sample.Leaves() {
		n := 0
		if v.Kind == api.KindLink {
			n = 1
		}
		if len(Links(v)) != n || len(Links(sample.List(v, v, sample.List(v)))) != 3*n {
			t.Errorf("P6.5: %s", written(v))
		}
	}
	if n := len(Links(sample.Within(sample.List(sample.Link("a"), sample.Link("a")), 1023, "ml"))); n != 2 {
		t.Errorf("P6.5: %d deep down", n)
	}
}

// TestMany: P6.2 to P6.6 of many trees, by the second reading.
func TestMany(t *testing.T) {
	d := sample.Dice(3)
	equal := 0
	for range 6000 {
		v := d.Tree(4)
		form := written(v)
		s := Sorted(v)
		if Depth(v) != deepest(v) || !slices.Equal(Links(v), linked(v)) {
			t.Fatalf("P6.2, P6.5: %s: %d, %v", form, Depth(v), Links(v))
		}
		if !reflect.DeepEqual(sample.Again(s), sample.Again(sortedAgain(v))) || !Equal(v, s) || !Equal(s, v) || !Equal(v, v) {
			t.Fatalf("P6.3, P6.6: %s: %+v", form, s)
		}
		m := d.Mixed(v)
		if !Equal(v, m) || !Equal(m, v) || !reflect.DeepEqual(s, Sorted(m)) || Depth(m) != Depth(v) || !slices.Equal(Links(m), Links(v)) {
			t.Fatalf("P6.6: %s in another order", form)
		}
		w := d.Touched(m)
		if Check(w) == api.OK {
			same := written(w) == form
			if Equal(w, v) != same || Equal(v, w) != same {
				t.Fatalf("P6.2: %s and %s: %v", form, written(w), Equal(v, w))
			}
			if same {
				equal++
			}
		}
	}
	if equal < 100 {
		t.Errorf("equal in spite of a touch %d times alone", equal)
	}
}

// room is the memory of one list, spare room and all.
type room struct{ from, to uintptr }

func roomOf[T any](list []T) room {
	from := uintptr(unsafe.Pointer(unsafe.SliceData(list)))
	var one T
	return room{from, from + uintptr(cap(list))*unsafe.Sizeof(one)}
}

// rooms tells the memory of all lists in a value.
func rooms(v api.Value) []room {
	all := []room{roomOf(v.Bytes), roomOf(v.Keys), roomOf(v.Items)}
	for _, item := range v.Items {
		all = append(all, rooms(item)...)
	}
	return all
}

// shared tells whether two lists of all share a byte.
func shared(all []room) bool {
	slices.SortFunc(all, func(a, b room) int { return int(a.from) - int(b.from) })
	end := uintptr(0)
	for _, r := range all {
		if r.from == r.to {
			continue
		}
		if r.from < end {
			return true
		}
		end = r.to
	}
	return false
}

// TestMemory: P6.7: nothing is changed, all that is told is new; of trees and of others.
func TestMemory(t *testing.T) {
	d := sample.Dice(4)
	for i := range 6000 {
		v := d.Tree(3)
		if i%2 == 0 {
			v = d.Touched(d.Touched(v))
		}
		v = sample.Again(v)
		other, before := sample.Again(v), sample.Again(v)
		told := []api.Value{v, Sorted(v), Sorted(v)}
		for _, key := range v.Keys {
			one, _ := Find(v, key)
			two, _ := Find(v, key)
			told = append(told, one, two)
		}
		links := [][]api.Link{Links(v), Links(v)}
		all := []room{roomOf(links[0]), roomOf(links[1])}
		for _, x := range told {
			all = append(all, rooms(x)...)
		}
		if shared(all) {
			t.Fatalf("P6.7: memory is shared: %+v", v)
		}
		// What has been let go might give its room to the next one.
		runtime.KeepAlive(told)
		runtime.KeepAlive(links)
		Check(v)
		Depth(v)
		Equal(v, other)
		Equal(other, v)
		Links(v)
		if !reflect.DeepEqual(v, before) || !reflect.DeepEqual(other, before) {
			t.Fatalf("P6.7, R2: what was handed in has changed: %+v", v)
		}
	}
}

// TestSpare: R2: room behind what is handed in stays as it is.
func TestSpare(t *testing.T) {
	keys := []string{"b", "a", "spare"}
	items := []api.Value{sample.List(), sample.Whole(1), sample.Text("spare")}
	bytes := []byte("abc")
	items[0].Items = []api.Value{{Kind: api.KindBytes, Bytes: bytes[:1]}, sample.Text("spare")}[:1]
	v := api.Value{Kind: api.KindMap, Keys: keys[:2], Items: items[:2]}
	s := Sorted(v)
	_ = append(s.Keys, "more")
	_ = append(s.Items, sample.Null())
	found, _ := Find(v, "b")
	found.Items[0].Bytes = append(found.Items[0].Bytes, 'x')
	_ = append(found.Items, sample.Null())
	if !slices.Equal(keys, []string{"b", "a", "spare"}) || items[2].Text != "spare" || string(bytes) != "abc" || items[0].Items[:2][1].Text != "spare" {
		t.Errorf("R2: %v, %+v, %s", keys, items, bytes)
	}
}

// TestNoTrees: R3: of values that are no trees every call ends.
func TestNoTrees(t *testing.T) {
	d := sample.Dice(5)
	odd := []api.Value{
		{}, {Kind: -1}, {Kind: api.KindMap, Keys: []string{"a", "b", "c"}, Items: []api.Value{sample.Link("x")}}, sample.Map("a", sample.Link("x"), sample.Link("y")), sample.Map("a a a", sample.Null(), sample.List(), sample.Null()),
		{Kind: api.KindNull, Items: []api.Value{sample.Link("x")}, Keys: []string{"a"}}, {Kind: api.KindList, Keys: []string{"a"}},
		{Kind: api.KindMap, Keys: []string{"a"}}, {Kind: api.KindMap, Items: []api.Value{sample.Null()}},
		sample.Within(sample.Null(), 1<<16, "l"), sample.Within(sample.Null(), 1<<16, "m"), sample.Within(sample.Map("a a"), 1<<15, "lm"),
	}
	for range 5000 {
		v := d.Tree(3)
		for range 3 {
			v = d.Touched(v)
		}
		odd = append(odd, v)
	}
	for i, v := range odd {
		for _, other := range []api.Value{v, odd[(i+1)%len(odd)], d.Touched(v)} {
			Equal(v, other)
			Equal(other, v)
		}
		Check(v)
		Depth(v)
		Links(v)
		Sorted(v)
		for _, key := range append(slices.Clone(v.Keys), "a", "k") {
			Find(v, key)
		}
	}
}

// TestWide: R3: maps of many entries are held against each other within a time that does not grow as their square.
func TestWide(t *testing.T) {
	var up, down api.Value
	up.Kind, down.Kind = api.KindMap, api.KindMap
	const n = 1 << 17
	for i := range n {
		up.Keys, up.Items = append(up.Keys, strconv.Itoa(i)), append(up.Items, sample.Whole(uint64(i)))
		down.Keys, down.Items = append(down.Keys, strconv.Itoa(n-1-i)), append(down.Items, sample.Whole(uint64(n-1-i)))
	}
	if !Equal(up, down) || !reflect.DeepEqual(Sorted(up), Sorted(down)) {
		t.Error("P6.2, P6.3: a map of many entries")
	}
	down.Items[n/2].N++
	if Equal(up, down) {
		t.Error("P6.2: a map of many entries, one another")
	}
}
