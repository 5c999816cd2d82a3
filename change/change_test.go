package change

import (
	"maps"
	"slices"
	"strings"
	"testing"

	"trellis/api"
	"trellis/sample"
	"trellis/store"
	"trellis/trie"
)

// TestExamples: the chapter's.
func TestExamples(t *testing.T) {
	s := made(t, 100)
	e, ab, cb, x := laid(t, s, small, nil), laid(t, s, small, letters("a1b2")), laid(t, s, small, letters("c5b2")), laid(t, s, small, letters("a1b3"))
	for i, w := range []struct {
		a, b api.Link
		want []api.Change
	}{{e, ab, row("a-1", "b-2")}, {ab, x, row("b23")}, {ab, cb, row("a1-", "c-5")}, {ab, ab, nil}} {
		if l, bad := differs(t, s, w.a, w.b); bad != api.OK || shown(l) != shown(w.want) {
			t.Errorf("1, %d: %d, %s", i, bad, shown(l))
		}
	}
	for i, w := range []struct {
		l    []api.Change
		root api.Link
		e    api.Errno
	}{
		{row("b23"), x, api.OK}, {row("b93"), api.Link{}, api.ErrChangeOld}, {row("b-3"), api.Link{}, api.ErrChangeOld}, {row("b22"), api.Link{}, api.ErrChangeOrder},
		{row("b23", "a12"), api.Link{}, api.ErrChangeOrder}, {nil, ab, api.OK},
	} {
		if root, bad := patches(t, s, ab, w.l); bad != w.e || root != w.root {
			t.Errorf("2, %d: %d", i, bad)
		}
	}
	keys := keysAt(small, 2, way(small, "b")...)
	p, q := laid(t, s, small, table{keys[0]: sample.Null()}), laid(t, s, small, table{keys[1]: sample.Null()})
	both := []api.Change{{Key: []byte(keys[0]), Had: true, Old: sample.Null()}, {Key: []byte(keys[1]), Has: true, New: sample.Null()}}
	if root, bad := patches(t, s, p, both); bad != api.OK || root != q {
		t.Errorf("3: %d", bad)
	}
	if root, bad := patches(t, s, p, both[1:]); bad != api.ErrTrieDepth || root != (api.Link{}) {
		t.Errorf("3: %d", bad)
	}
	for i, w := range []struct {
		base, ours, theirs api.Link
		other              bool
		m, clashes         string
	}{{ab, x, cb, false, "b3c5", ""}, {e, ab, x, false, "a1b2", "b"}, {e, ab, x, true, "a1b3", "b"}} {
		root, clashes, bad := merges(t, s, w.base, w.ours, w.theirs, w.other)
		if bad != api.OK || root != laid(t, s, small, letters(w.m)) || strings.Join(clashes, "") != w.clashes {
			t.Errorf("4, %d: %d, %q", i, bad, clashes)
		}
	}
	one := laid(t, s, api.Trie{Width: 1, Bucket: 1, Bytes: 1}, nil)
	if l, bad := differs(t, s, ab, one); bad != api.ErrChangeConfig || l != nil {
		t.Errorf("5: %d", bad)
	}
	s.Delete(x)
	for i, w := range [][2]api.Link{{ab, x}, {x, ab}} {
		if l, bad := differs(t, s, w[0], w[1]); bad != api.ErrStoreNone || l != nil {
			t.Errorf("5, %d: %d", i, bad)
		}
	}
}

// TestMany: P16.1 to P16.5 of maps with little and with much in common: by the maps alone.
func TestMany(t *testing.T) {
	pool := keyPool()
	for at, c := range manyWidths {
		for seed := range 40 {
			d := sample.Dice(1000*at + seed)
			s := made(t, 5000)
			m := anyMap(&d, c, pool, nil, 30)
			n := anyMap(&d, c, pool, m, 1+d.Below(8))
			o := anyMap(&d, c, pool, m, 1+d.Below(8))
			if d.Below(4) == 0 {
				o = anyMap(&d, c, pool, n, 3)
			}
			holds(t, s, c, m, n, o)
		}
	}
}

// holds: what follows of three maps.
func holds(t *testing.T, s *store.Store, c api.Trie, m, n, o table) {
	t.Helper()
	x, y, z := laid(t, s, c, m), laid(t, s, c, n), laid(t, s, c, o)
	l, e := differs(t, s, x, y)
	if e != api.OK || shown(l) != shown(mapDiff(m, n)) || (len(l) == 0) != (x == y) {
		t.Fatalf("%v: Diff: %d,\n%s; want\n%s", c, e, shown(l), shown(mapDiff(m, n)))
	}
	if back, e := Diff(s, y, x); e != api.OK || shown(back) != shown(turned(l)) {
		t.Fatalf("%v: Diff back: %d,\n%s", c, e, shown(back))
	}
	if root, e := patches(t, s, x, l); e != api.OK || root != y {
		t.Fatalf("%v: Patch of Diff: %d", c, e)
	}
	next, _ := Diff(s, y, z)
	if root, e := patches(t, s, y, next); e != api.OK || root != z {
		t.Fatalf("%v: Patch behind Patch: %d", c, e)
	}
	for _, other := range []bool{false, true} {
		want, keys := mergedMap(m, n, o, other)
		root, clashes, e := merges(t, s, x, y, z, other)
		if !takes(c, want) {
			if e != api.ErrTrieDepth {
				t.Fatalf("%v: Merge: %d", c, e)
			}
			continue
		}
		if e != api.OK || root != laid(t, s, c, want) || !slices.Equal(clashes, keys) {
			t.Fatalf("%v: Merge: %d, %q; want %q", c, e, clashes, keys)
		}
		if turn, crossed, e := Merge(s, x, z, y, !other); e != api.OK || turn != root || !slices.Equal(texts(crossed), keys) {
			t.Fatalf("%v: Merge the other way round: %d, %q", c, e, crossed)
		}
		for i, w := range [][4]api.Link{{x, y, x, y}, {x, x, y, y}, {x, y, y, y}, {x, x, x, x}} {
			if root, clashes, e := Merge(s, w[0], w[1], w[2], other); e != api.OK || root != w[3] || len(clashes) > 0 {
				t.Fatalf("%v: Merge with one side alone, %d: %d, %q", c, i, e, clashes)
			}
		}
	}
}

// TestOneLink: P16.1: of one link the root alone is read.
func TestOneLink(t *testing.T) {
	s := made(t, 100)
	root := laid(t, s, small, letters("a1b2c3"))
	for _, l := range s.Links() {
		if l != root {
			s.Delete(l)
		}
	}
	if l, e := differs(t, s, root, root); e != api.OK || l != nil {
		t.Errorf("%d", e)
	}
	for _, e := range []api.Errno{api.ErrStoreBad, api.ErrStoreNone} {
		on := broken(s, root, e)
		if l, f := differs(t, on, root, root); f != e || l != nil {
			t.Errorf("%d; want %d", f, e)
		}
	}
	node := put(s, sample.List(two(small, map[int]api.Value{0: bucket(letters("b1"))})...))
	if _, e := differs(t, s, node, node); e != api.ErrTrieNode {
		t.Errorf("%d", e)
	}
}

// TestWrongRoots: P16.1 to P16.3, and which error counts: what is no root at each place.
func TestWrongRoots(t *testing.T) {
	s := made(t, 100)
	good, wide := laid(t, s, small, letters("a1b2")), laid(t, s, api.Trie{Width: 2, Bucket: 2, Bytes: 1}, letters("a1b2"))
	raw, _ := s.Put(api.CodecRaw, []byte("x"))
	lost, bad := laid(t, s, small, letters("x1")), laid(t, s, small, letters("y1"))
	s.Delete(lost)
	s = broken(s, bad, api.ErrStoreBad)
	asRaw, old := good, good
	asRaw.Codec = api.CodecRaw
	old.Version, old.Codec = 0, api.CodecOld
	b, _ := s.Get(good)
	if _, e := s.Add(api.Block{Link: asRaw, Bytes: b}, api.Block{Link: old, Bytes: b}); e != api.OK {
		t.Fatal(e)
	}
	wrong := []struct {
		l api.Link
		e api.Errno
	}{
		{api.Link{}, api.ErrStoreLink}, {api.Link{Version: 2}, api.ErrStoreLink}, {lost, api.ErrStoreNone}, {bad, api.ErrStoreBad}, {raw, api.ErrTrieNode}, {asRaw, api.ErrTrieNode}, {old, api.ErrTrieNode},
		{api.Link{Version: 1, Codec: api.CodecTree, Digest: string(b)}, api.ErrTrieNode},
		{put(s, sample.Null()), api.ErrTrieNode}, {put(s, sample.List(two(small, map[int]api.Value{0: bucket(letters("b1"))})...)), api.ErrTrieNode},
		{put(s, six(small, two(small, map[int]api.Value{1: bucket(letters("b1"))}))), api.ErrTrieNode},
		{put(s, six(api.Trie{Width: 2, Bucket: 17, Bytes: 1}, two(small, nil))), api.ErrTrieNode},
	}
	for i, w := range wrong {
		for j, v := range wrong {
			if l, e := differs(t, s, w.l, v.l); e != w.e || l != nil {
				t.Errorf("Diff %d, %d: %d; want %d", i, j, e, w.e)
			}
		}
		if l, e := differs(t, s, good, w.l); e != w.e || l != nil {
			t.Errorf("Diff %d: %d; want %d", i, e, w.e)
		}
		for _, l := range [][]api.Change{nil, row("b23"), row("b93")} {
			if root, e := patches(t, s, w.l, l); root != (api.Link{}) || e != w.e {
				t.Errorf("Patch %d: %d; want %d", i, e, w.e)
			}
		}
		if root, e := patches(t, s, w.l, row("b22")); root != (api.Link{}) || e != api.ErrChangeOrder {
			t.Errorf("Patch %d: %d", i, e)
		}
		for j, v := range [][3]api.Link{{w.l, wide, lost}, {good, w.l, wide}, {good, good, w.l}, {good, w.l, lost}, {good, w.l, w.l}, {w.l, w.l, w.l}} {
			if root, clashes, e := merges(t, s, v[0], v[1], v[2], i%2 == 0); root != (api.Link{}) || clashes != nil || e != w.e {
				t.Errorf("Merge %d, %d: %d; want %d", i, j, e, w.e)
			}
		}
		if _, _, e := merges(t, s, good, wide, w.l, false); e != api.ErrChangeConfig {
			t.Errorf("Merge %d: %d", i, e)
		}
	}
}

// TestUnlikeWidths: P16.1 and P16.3: each of the three, whatever the maps; ahead of all nodes.
func TestUnlikeWidths(t *testing.T) {
	s := made(t, 100)
	root := laid(t, s, small, letters("a1b2c3"))
	for i, c := range []api.Trie{{Width: 1, Bucket: 1, Bytes: 1}, {Width: 2, Bucket: 2, Bytes: 1}, {Width: 2, Bucket: 1, Bytes: 2}} {
		for _, m := range []table{nil, letters("a1"), letters("a1b2c3")} {
			other := laid(t, s, c, m)
			for _, w := range [][2]api.Link{{root, other}, {other, root}} {
				on := s.Copy()
				for _, l := range on.Links() {
					if l != root && l != other {
						on.Delete(l)
					}
				}
				if l, e := differs(t, on, w[0], w[1]); e != api.ErrChangeConfig || l != nil {
					t.Errorf("%d: Diff: %d", i, e)
				}
			}
			for _, w := range [][3]api.Link{{root, root, other}, {root, other, root}, {other, root, root}, {root, other, other}} {
				if _, _, e := merges(t, s, w[0], w[1], w[2], false); e != api.ErrChangeConfig {
					t.Errorf("%d: Merge: %d", i, e)
				}
			}
		}
	}
}

// TestValues: P16.1: values are held against each other as trees: by their forms.
func TestValues(t *testing.T) {
	s := made(t, 1000)
	all := append(sample.Leaves(), sample.List(), sample.Map(""), sample.List(sample.Null()), sample.Map("a b", sample.Null(), sample.List()), sample.Map("b a", sample.List(), sample.Null()), sample.Map("b a", sample.Null(), sample.List()), sample.Within(sample.Null(), 512, "lm"), octets(strings.Repeat("x", 4093)))
	var roots []api.Link
	for _, v := range all {
		roots = append(roots, laid(t, s, small, table{"a": v}))
	}
	for i, v := range all {
		for j, w := range all {
			l, e := Diff(s, roots[i], roots[j])
			want := []api.Change{{Key: []byte("a"), Had: true, Has: true, Old: sorted(v), New: sorted(w)}}
			if treesAlike(v, w) {
				want = nil
			}
			if e != api.OK || shown(l) != shown(want) {
				t.Fatalf("Diff %d, %d: %d, %s; want %s", i, j, e, shown(l), shown(want))
			}
			// Old and New need not be in keys' order.
			patch := []api.Change{{Key: []byte("a"), Had: true, Has: true, Old: v, New: w}}
			root, e := Patch(s, roots[i], patch)
			if len(want) == 0 {
				if e != api.ErrChangeOrder {
					t.Fatalf("Patch %d, %d: %d", i, j, e)
				}
			} else if e != api.OK || root != roots[j] {
				t.Fatalf("Patch %d, %d: %d", i, j, e)
			}
		}
	}
}

// change: of the key b, with these values, nil for none.
func change(old, now *api.Value) api.Change {
	c := api.Change{Key: []byte("b"), Had: old != nil, Has: now != nil}
	if old != nil {
		c.Old = *old
	}
	if now != nil {
		c.New = *now
	}
	return c
}

// TestPatchOld: P16.2's third row, of each Old and each trie.
func TestPatchOld(t *testing.T) {
	s := made(t, 100)
	with, without := laid(t, s, small, letters("a1b2")), laid(t, s, small, letters("a1c2"))
	right, other, zero, text := sample.Whole(2), sample.Whole(3), api.Value{}, sample.Text("\xff")
	flagged, deep := sample.Whole(2), sample.Within(sample.Null(), 1025, "l")
	flagged.Flag = true
	for i, w := range []struct {
		old       *api.Value
		in, notIn api.Errno
	}{
		{nil, api.ErrChangeOld, api.OK}, {&right, api.OK, api.ErrChangeOld}, {&other, api.ErrChangeOld, api.ErrChangeOld}, {&zero, api.ErrChangeOld, api.ErrChangeOld},
		{&text, api.ErrChangeOld, api.ErrChangeOld}, {&flagged, api.ErrChangeOld, api.ErrChangeOld}, {&deep, api.ErrChangeOld, api.ErrChangeOld},
	} {
		for _, now := range []*api.Value{nil, {Kind: api.KindNull}, {}, {Kind: 99}} {
			l := []api.Change{change(w.old, now)}
			for root, e := range map[api.Link]api.Errno{with: w.in, without: w.notIn} {
				switch {
				case w.old == nil && now == nil:
					e = api.ErrChangeOrder
				case e == api.OK && now != nil && now.Kind != api.KindNull:
					e = api.ErrTrieValue
				}
				if _, f := patches(t, s, root, l); f != e {
					t.Errorf("%d: %s: %d; want %d", i, shown(l), f, e)
				}
			}
		}
	}
}

// TestSameNoTrees: P16.2: a change whose values are no trees changes something, though they are the same.
func TestSameNoTrees(t *testing.T) {
	s := made(t, 100)
	root := laid(t, s, small, letters("a1b2"))
	for i, v := range []api.Value{{}, {Kind: 99}, sample.Text("\xff"), sample.Float(0x7ff0000000000000), sample.Map("a a", sample.Null(), sample.Null()), sample.Within(sample.Null(), 1025, "l"), {Kind: api.KindNull, N: 1}} {
		if _, e := patches(t, s, root, []api.Change{change(&v, &v)}); e != api.ErrChangeOld {
			t.Errorf("%d: %d", i, e)
		}
	}
	for i, v := range []api.Value{sample.Whole(2), sample.Whole(3), sample.List(), sample.Map("b a", sample.Null(), sample.Null())} {
		if _, e := patches(t, s, root, []api.Change{change(&v, &v)}); e != api.ErrChangeOrder {
			t.Errorf("%d: %d", i, e)
		}
	}
	up, down := sample.Map("b a", sample.Whole(1), sample.Whole(2)), sample.Map("a b", sample.Whole(2), sample.Whole(1))
	if _, e := patches(t, s, root, []api.Change{change(&up, &down)}); e != api.ErrChangeOrder {
		t.Errorf("a map in another order: %d", e)
	}
}

// TestNearlyTrees: P16.2: values in which a tree has a field more than its kind uses are equal to nothing.
func TestNearlyTrees(t *testing.T) {
	s := made(t, 100)
	within := func(v api.Value) []api.Value { return []api.Value{v, sample.List(v), sample.Map("k", v)} }
	inner := sample.Map("a b", sample.Whole(1), sample.List())
	for i, m := range within(inner) {
		root := laid(t, s, small, table{"b": m})
		for j, mark := range []func(*api.Value){
			func(v *api.Value) { v.Flag = true }, func(v *api.Value) { v.Neg = true }, func(v *api.Value) { v.N = 1 }, func(v *api.Value) { v.Bits = 1 },
			func(v *api.Value) { v.Text = "x" }, func(v *api.Value) { v.Bytes = []byte{0} }, func(v *api.Value) { v.Link.Version = 1 },
		} {
			odd := sample.Again(inner)
			mark(&odd)
			v := within(odd)[i]
			for _, w := range []struct {
				old, now *api.Value
				e        api.Errno
			}{{&v, nil, api.ErrChangeOld}, {&v, &m, api.ErrChangeOld}, {&v, &v, api.ErrChangeOld}, {&m, &v, api.ErrTrieValue}, {&m, &m, api.ErrChangeOrder}, {&m, nil, api.OK}} {
				if _, e := patches(t, s, root, []api.Change{change(w.old, w.now)}); e != w.e {
					t.Errorf("%d, %d: %d; want %d", i, j, e, w.e)
				}
			}
		}
	}
}

// TestNested: P16.6 and R3: values of more lists and maps in one another than any tree has.
func TestNested(t *testing.T) {
	s := made(t, 100)
	root := laid(t, s, small, letters("b2"))
	right := sample.Whole(2)
	for _, how := range []string{"l", "m", "lm"} {
		v := sample.Within(sample.Null(), 1<<16-4, how)
		for i, w := range []struct {
			c api.Change
			e api.Errno
		}{{change(&v, nil), api.ErrChangeOld}, {change(&v, &v), api.ErrChangeOld}, {change(&right, &v), api.ErrTrieValue}} {
			if l, e := Patch(s, root, []api.Change{w.c}); e != w.e || l != (api.Link{}) || s.Len() != 2 {
				t.Errorf("%s, %d: %d; want %d", how, i, e, w.e)
			}
		}
	}
}

// TestStrayValues: P16.2: Old without Had and New without Has are the zero value, field by field; an empty list is none.
func TestStrayValues(t *testing.T) {
	s := made(t, 100)
	with, without := laid(t, s, small, letters("b2")), laid(t, s, small, nil)
	stray := []api.Value{
		{Kind: api.KindNull}, {Kind: -1}, {Flag: true}, {Neg: true}, {N: 1}, {Bits: 1}, {Text: "x"}, {Bytes: []byte{0}}, {Link: api.Link{Version: 1}}, {Link: api.Link{Codec: 1}}, {Link: api.Link{Hash: 1}}, {Link: api.Link{Digest: "x"}},
		{Keys: []string{""}}, {Items: []api.Value{{}}},
	}
	empty := api.Value{Bytes: []byte{}, Keys: []string{}, Items: []api.Value{}}
	for i, v := range append(stray, empty) {
		e := api.ErrChangeOrder
		if i == len(stray) {
			e = api.OK
		}
		set, gone := row("b-1"), row("b2-")
		set[0].Old, gone[0].New = v, v
		if _, f := patches(t, s, without, set); f != e {
			t.Errorf("%d: Old without Had: %d", i, f)
		}
		if _, f := patches(t, s, with, gone); f != e {
			t.Errorf("%d: New without Has: %d", i, f)
		}
		// It comes ahead of what is found at the root.
		set[0].Key, gone[0].Key = make([]byte, api.MaxKey+1), make([]byte, api.MaxKey+1)
		for _, l := range [][]api.Change{set, gone} {
			want := e
			if e == api.OK {
				want = api.ErrTrieKey
			}
			if _, f := patches(t, s, with, l); f != want {
				t.Errorf("%d: of a long key: %d", i, f)
			}
		}
	}
}

// TestPatchOrder: P16.2: keys must rise by their bytes, wherever the fault stands.
func TestPatchOrder(t *testing.T) {
	s := made(t, 1000)
	root := laid(t, s, api.Trie{Width: 4, Bucket: 2, Bytes: 4}, nil)
	rising := []string{"", "\x00", "\x00\x00", "a", "aa", "ab", "b", "ba", "c", "\x7f", "\x80", "\xff", "\xff\x00"}
	set := func(keys ...string) (l []api.Change) {
		for _, key := range keys {
			l = append(l, api.Change{Key: []byte(key), Has: true, New: sample.Null()})
		}
		return l
	}
	m := table{}
	for _, key := range rising {
		m[key] = sample.Null()
	}
	if got, e := patches(t, s, root, set(rising...)); e != api.OK || got != laid(t, s, api.Trie{Width: 4, Bucket: 2, Bytes: 4}, m) {
		t.Errorf("%d", e)
	}
	for i, a := range rising {
		for j, b := range rising {
			want := api.ErrChangeOrder
			if i < j {
				want = api.OK
			}
			if _, e := patches(t, s, root, set(a, b)); e != want {
				t.Errorf("%q, %q: %d", a, b, e)
			}
		}
		if i > 0 {
			list := slices.Clone(rising)
			list[i-1], list[i] = list[i], list[i-1]
			if _, e := patches(t, s, root, set(list...)); e != api.ErrChangeOrder {
				t.Errorf("%q: %d", list, e)
			}
			list[i-1] = list[i]
			if _, e := patches(t, s, root, set(list...)); e != api.ErrChangeOrder {
				t.Errorf("%q: %d", list, e)
			}
		}
	}
	// One that changes nothing, first and last among others.
	for _, l := range [][]api.Change{row("a--", "b-1"), row("a-1", "b--"), row("a-1", "b-1", "c11"), row("a11", "b-1")} {
		if _, e := patches(t, s, root, l); e != api.ErrChangeOrder {
			t.Errorf("%s: %d", shown(l), e)
		}
	}
}

// TestPatchFirst: P16.2: which error counts, where several apply.
func TestPatchFirst(t *testing.T) {
	s := made(t, 100)
	root := laid(t, s, small, letters("a1b2c3")) // b and c stand behind a link
	node, e := trie.Node(s, small, nil, root)
	if e != api.OK || node[0].Below == (api.Link{}) {
		t.Fatal(e)
	}
	lost := broken(s, node[0].Below, api.ErrStoreNone)
	long := api.Change{Key: []byte("bb" + strings.Repeat("x", api.MaxKey)), Has: true, New: sample.Null()}
	ill := row("d-1")
	ill[0].New = api.Value{}
	for i, w := range []struct {
		on *store.Store
		l  []api.Change
		e  api.Errno
	}{
		{s, slices.Concat(row("b93"), []api.Change{long}), api.ErrChangeOld},
		{s, slices.Concat(row("b23"), []api.Change{long}, row("c93")), api.ErrTrieKey},
		{s, slices.Concat([]api.Change{long}, row("c93"), ill), api.ErrTrieKey},
		{s, slices.Concat(row("c93"), ill), api.ErrChangeOld},
		{s, slices.Concat(row("c34"), ill), api.ErrTrieValue},
		{s, slices.Concat(row("a93"), ill, row("d-1")), api.ErrChangeOrder},
		{lost, row("a93", "b23"), api.ErrChangeOld},
		{lost, row("a13", "b93"), api.ErrStoreNone},
		{lost, row("b93", "d9-"), api.ErrStoreNone},
		{lost, slices.Concat(row("b23"), []api.Change{long}), api.ErrStoreNone},
		{lost, slices.Concat([]api.Change{long}, row("c34")), api.ErrTrieKey},
		{lost, slices.Concat(row("c34"), ill), api.ErrStoreNone},
		{lost, row("a13"), api.OK}, // what is not on a key's path is not read
		{lost, nil, api.OK},
	} {
		if _, e := patches(t, w.on.Copy(), root, w.l); e != w.e {
			t.Errorf("%d: %d; want %d", i, e, w.e)
		}
	}
}

// TestPatchValues: P16.2: New at the edges of what a trie takes.
func TestPatchValues(t *testing.T) {
	s := made(t, 100)
	root := laid(t, s, small, letters("a1b2"))
	for i, w := range []struct {
		v api.Value
		e api.Errno
	}{
		{octets(strings.Repeat("x", 4093)), api.OK}, {octets(strings.Repeat("x", 4094)), api.ErrTrieValue},
		{sample.Within(sample.Null(), 512, "l"), api.OK}, {sample.Within(sample.Null(), 513, "l"), api.ErrTrieValue},
		{sample.Within(sample.Null(), 1025, "l"), api.ErrTrieValue}, {api.Value{}, api.ErrTrieValue}, {sample.Text("\xff"), api.ErrTrieValue},
	} {
		two := sample.Whole(2)
		if _, e := patches(t, s, root, []api.Change{change(&two, &w.v)}); e != w.e {
			t.Errorf("%d: %d; want %d", i, e, w.e)
		}
		c := change(nil, &w.v)
		c.Key = []byte(strings.Repeat("k", api.MaxKey))
		if _, e := patches(t, s, root, []api.Change{c}); e != w.e {
			t.Errorf("%d, another key: %d; want %d", i, e, w.e)
		}
	}
}

// TestOnePath: P16.2 and P16.3: keys of one path: those that go do so first, wherever they stand.
func TestOnePath(t *testing.T) {
	for _, c := range []api.Trie{small, {Width: 3, Bucket: 2, Bytes: 1}, {Width: 8, Bucket: 3, Bytes: 1}} {
		keys := keysAt(c, 2*c.Bucket, way(c, "b")...)
		slices.Sort(keys)
		for _, turn := range []bool{false, true} {
			if turn {
				slices.Reverse(keys)
			}
			s := made(t, 100)
			m, n := table{}, table{}
			for i, key := range keys[:c.Bucket] {
				m[key], n[keys[i+c.Bucket]] = sample.Null(), sample.Null()
			}
			empty, one, two := laid(t, s, c, nil), laid(t, s, c, m), laid(t, s, c, n)
			if l, e := differs(t, s, one, two); e != api.OK || len(l) != 2*c.Bucket {
				t.Errorf("%v: Diff: %d", c, e)
			} else if root, e := patches(t, s, one, l); e != api.OK || root != two {
				t.Errorf("%v: Patch: %d", c, e)
			}
			come := api.Change{Key: []byte(keys[c.Bucket]), Has: true, New: sample.Null()}
			if root, e := patches(t, s, one, []api.Change{come}); e != api.ErrTrieDepth || root != (api.Link{}) {
				t.Errorf("%v: Patch: %d", c, e)
			}
			if root, clashes, e := merges(t, s, empty, one, two, false); e != api.ErrTrieDepth || root != (api.Link{}) || clashes != nil {
				t.Errorf("%v: Merge: %d", c, e)
			}
			// Theirs has one key gone and another in its place, ours has changed another thing.
			m["a"] = sample.Whole(1)
			ours := laid(t, s, c, m)
			delete(n, keys[c.Bucket])
			n[keys[0]] = sample.Null()
			want := maps.Clone(n)
			want["a"] = sample.Whole(1)
			if root, clashes, e := merges(t, s, one, ours, laid(t, s, c, n), false); e != api.OK || root != laid(t, s, c, want) || clashes != nil {
				t.Errorf("%v: Merge: %d, %q", c, e, clashes)
			}
		}
	}
}

// TestMergeKinds: P16.3: each kind of a key's three values, behind a link and in a root's bucket.
func TestMergeKinds(t *testing.T) {
	for _, c := range []api.Trie{small, {Width: 8, Bucket: 16, Bytes: 32}} {
		for _, rest := range []string{"", "c7", "c7a8d9"} {
			s := made(t, 300)
			states := []string{"", "b1", "b2", "b3"}
			for _, base := range states {
				for _, ours := range states {
					for _, theirs := range states {
						for _, other := range []bool{false, true} {
							root, clashes, e := merges(t, s, laid(t, s, c, letters(base+rest)), laid(t, s, c, letters(ours+rest)), laid(t, s, c, letters(theirs+rest)), other)
							want, clash := ours, ours != base && theirs != base && ours != theirs
							if ours == base || clash && other {
								want = theirs
							}
							if e != api.OK || root != laid(t, s, c, letters(want+rest)) || (len(clashes) == 1) != clash || clash && clashes[0] != "b" {
								t.Errorf("%s, %s, %s, %v: %d, %q", base, ours, theirs, other, e, clashes)
							}
						}
					}
				}
			}
		}
	}
}

// TestClashes: P16.3: the keys that clash stand by their bytes, whatever their paths; other chooses for all of them.
func TestClashes(t *testing.T) {
	c := api.Trie{Width: 3, Bucket: 1, Bytes: 4}
	keys := []string{"", "\x00", "a", "aa", "b", "ba", "c", "\x80", "\xff"}
	s := made(t, 300)
	base, ours, theirs := table{}, table{"ours": sample.Null()}, table{"theirs": sample.Null()}
	for i, key := range keys {
		base[key] = sample.Whole(0)
		ours[key] = sample.Whole(1)
		if i%3 > 0 {
			theirs[key] = sample.Whole(2)
		}
	}
	for _, other := range []bool{false, true} {
		want, clashes := mergedMap(base, ours, theirs, other)
		root, told, e := merges(t, s, laid(t, s, c, base), laid(t, s, c, ours), laid(t, s, c, theirs), other)
		if e != api.OK || root != laid(t, s, c, want) || !slices.Equal(told, keys) || !slices.Equal(clashes, keys) {
			t.Errorf("%v: %d, %q", other, e, told)
		}
	}
}

// fills: does a call that makes blocks go by the room? So many blocks are new.
func fills(t *testing.T, s *store.Store, fresh int, call func(*store.Store) (api.Link, api.Errno)) {
	t.Helper()
	for spare := range fresh + 1 {
		on := moved(t, s, s.Len()+spare)
		was := standing(on)
		root, e := call(on)
		if spare < fresh {
			if e != api.ErrStoreFull || root != (api.Link{}) || !maps.Equal(standing(on), was) {
				t.Errorf("%d blocks of %d: %d", spare, fresh, e)
			}
		} else if e != api.OK || on.Len() != s.Len()+fresh {
			t.Errorf("%d blocks of %d: %d", spare, fresh, e)
		}
	}
}

// TestRoom: P16.6: a store without room for the new nodes.
func TestRoom(t *testing.T) {
	s := made(t, 100)
	ab, x, cb := laid(t, s, small, letters("a1b2")), laid(t, s, small, letters("a1b3")), laid(t, s, small, letters("c5b2"))
	fills(t, s, 2, func(on *store.Store) (api.Link, api.Errno) { return patches(t, on, ab, row("a19", "c-8")) })
	fills(t, s, 1, func(on *store.Store) (api.Link, api.Errno) { return patches(t, on, ab, row("b29")) })
	fills(t, s, 0, func(on *store.Store) (api.Link, api.Errno) { return patches(t, on, ab, row("b23")) })
	fills(t, s, 0, func(on *store.Store) (api.Link, api.Errno) { return patches(t, on, ab, nil) })
	for _, other := range []bool{false, true} {
		fills(t, s, 2, func(on *store.Store) (api.Link, api.Errno) {
			root, _, e := merges(t, on, ab, x, cb, other)
			return root, e
		})
		fills(t, s, 0, func(on *store.Store) (api.Link, api.Errno) {
			root, _, e := merges(t, on, ab, ab, cb, other)
			return root, e
		})
	}
}

// TestHandedIn: P16.6 and R2: what is handed in is neither changed nor kept, its spare room too.
func TestHandedIn(t *testing.T) {
	pool := keyPool()
	for seed := range 60 {
		d := sample.Dice(seed)
		c := manyWidths[d.Below(len(manyWidths))]
		s := made(t, 5000)
		m := anyMap(&d, c, pool, nil, 30)
		n := anyMap(&d, c, pool, m, 12)
		root := laid(t, s, c, m)
		l := again(mapDiff(m, n))
		if d.Below(4) == 0 && len(l) > 0 {
			l[d.Below(len(l))].New = sample.Text("\xff")
		}
		for i := range l {
			l[i].Key = append(make([]byte, 0, len(l[i].Key)+8), l[i].Key...)
			l[i].Old, l[i].New = d.Mixed(l[i].Old), d.Mixed(l[i].New)
		}
		spare := row("z12")
		all := slices.Concat(l, spare)
		before := shown(all)
		got, e := Patch(s, root, all[:len(l)])
		if shown(all) != before {
			t.Fatalf("seed %d: what was handed in has changed", seed)
		}
		was := standing(s)
		sample.Apart(values(all)...)
		clear(all)
		if !maps.Equal(standing(s), was) {
			t.Fatalf("seed %d: what was handed in is kept", seed)
		}
		if e == api.OK && got != laid(t, s, c, n) {
			t.Fatalf("seed %d: %d", seed, e)
		}
	}
}

// TestToldIsNew: P16.6 and R2: what is told is the caller's own.
func TestToldIsNew(t *testing.T) {
	pool := keyPool()
	for seed := range 40 {
		d := sample.Dice(seed)
		c := manyWidths[d.Below(len(manyWidths))]
		s := made(t, 5000)
		m := anyMap(&d, c, pool, nil, 30)
		x, y, z := laid(t, s, c, m), laid(t, s, c, anyMap(&d, c, pool, m, 12)), laid(t, s, c, anyMap(&d, c, pool, m, 12))
		was := standing(s)
		one, _ := Diff(s, x, y)
		two, _ := Diff(s, x, y)
		other, _ := Diff(s, y, x)
		before := shown(two)
		room := one[:cap(one)]
		kept := slices.Clone(room)
		clear(room)
		if shown(two) != before {
			t.Fatalf("seed %d: two answers of Diff share a list", seed)
		}
		if !sample.Apart(slices.Concat(values(kept), values(two), values(other))...) {
			t.Fatalf("seed %d: two answers of Diff share memory", seed)
		}
		if l, _ := Diff(s, x, y); shown(l) != before || !maps.Equal(standing(s), was) {
			t.Fatalf("seed %d: what was told was written over, and other things are told", seed)
		}
		_, keys, e := Merge(s, x, y, z, false)
		_, again, f := Merge(s, x, y, z, false)
		if e != f {
			t.Fatalf("seed %d: %d, then %d", seed, e, f)
		}
		was = standing(s)
		var octets []api.Value
		for _, key := range slices.Concat(keys, again) {
			octets = append(octets, api.Value{Bytes: key})
		}
		if !sample.Apart(octets...) {
			t.Fatalf("seed %d: two keys of Merge share memory", seed)
		}
		told := len(strings.Join(texts(again), "."))
		clear(keys[:cap(keys)])
		if len(strings.Join(texts(again), ".")) != told {
			t.Fatalf("seed %d: two answers of Merge share a list", seed)
		}
		if !maps.Equal(standing(s), was) {
			t.Fatalf("seed %d: what was told is kept", seed)
		}
	}
}
