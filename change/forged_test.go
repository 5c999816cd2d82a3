package change

import (
	"fmt"
	"maps"
	"slices"
	"strconv"
	"strings"
	"testing"

	"trellis/api"
	"trellis/sample"
	"trellis/store"
	"trellis/trie"
)

// nodesOf: the links of a trie's nodes below the top, each by the path that leads to it.
func nodesOf(t *testing.T, s *store.Store, c api.Trie, root api.Link) map[string]api.Link {
	t.Helper()
	all := map[string]api.Link{}
	var through func(path []int, l api.Link)
	through = func(path []int, l api.Link) {
		n, e := trie.Node(s, c, path, l)
		if e != api.OK {
			t.Fatal(e)
		}
		for _, x := range n {
			if x.Below != (api.Link{}) {
				here := slices.Concat(path, []int{x.Slice})
				all[fmt.Sprint(here)] = x.Below
				through(here, x.Below)
			}
		}
	}
	through(nil, root)
	return all
}

// TestReads: P16.1: just those nodes are read that the two tries do not share: a block that is lost or wrong is told or not by that.
func TestReads(t *testing.T) {
	pool := keyPool()
	shared, apart := 0, 0
	for at, c := range manyWidths {
		for seed := range 6 {
			d := sample.Dice(1000*at + seed)
			s := made(t, 5000)
			m := anyMap(&d, c, pool, nil, 60)
			a, b := laid(t, s, c, m), laid(t, s, c, anyMap(&d, c, pool, m, 3))
			want, e := differs(t, s, a, b)
			if e != api.OK {
				t.Fatal(e)
			}
			first, second := nodesOf(t, s, c, a), nodesOf(t, s, c, b)
			read := map[api.Link]bool{a: true, b: true}
			for path, l := range first {
				if second[path] != l {
					read[l] = true
				}
			}
			for path, l := range second {
				if first[path] != l {
					read[l] = true
				}
			}
			for _, l := range s.Links() {
				bad := []api.Errno{api.ErrStoreNone, api.ErrStoreBad}[d.Below(2)]
				told, e := differs(t, broken(s, l, bad), a, b)
				if a == b && l == a {
					continue
				}
				if read[l] {
					apart++
					if e != bad || told != nil {
						t.Fatalf("%v, seed %d: a block that is read: %d; want %d", c, seed, e, bad)
					}
				} else {
					shared++
					if e != api.OK || shown(told) != shown(want) {
						t.Fatalf("%v, seed %d: a block that is not read: %d", c, seed, e)
					}
				}
			}
		}
	}
	if shared < 100 || apart < 100 {
		t.Errorf("%d blocks that are not read, %d that are: too few to tell", shared, apart)
	}
}

// TestTurns: P16.1: in which order nodes are read: of any two that are broken the first one's error is told.
func TestTurns(t *testing.T) {
	s := made(t, 100)
	mapOf := func(paths ...string) table {
		m := table{}
		for _, p := range paths {
			m[keyAt(small, int(p[0]-'0'), int(p[1]-'0'), int(p[2]-'0'))] = sample.Null()
		}
		return m
	}
	alike := []string{"300", "301", "310"}
	a := laid(t, s, small, mapOf(append(alike, "000", "001", "030", "031", "100", "101", "120", "121")...))
	b := laid(t, s, small, mapOf(append(alike, "000", "002", "020", "021", "100", "200", "210")...))
	first, second := nodesOf(t, s, small, a), nodesOf(t, s, small, b)
	order := []api.Link{a, b}
	// Slice 0: both have a link, and so in their slice 0; in slice 2 the one has none, in slice 3 the other. Slice 1: against a bucket; slice 2: against nothing; slice 3: the same link.
	for _, x := range []string{"a [0]", "b [0]", "a [0 0]", "b [0 0]", "b [0 2]", "a [0 3]", "a [1]", "a [1 0]", "a [1 2]", "b [2]"} {
		l, is := first[x[2:]]
		if x[0] == 'b' {
			l, is = second[x[2:]]
		}
		if !is {
			t.Fatalf("no node %s", x)
		}
		order = append(order, l)
	}
	if _, read, e := plainDiff(s, a, b); e != api.OK || !slices.Equal(read, order) {
		t.Errorf("the plain reading has another order: %d", e)
	}
	for i, l := range order {
		for j := range order {
			for _, bad := range [][2]api.Errno{{api.ErrStoreNone, api.ErrStoreBad}, {api.ErrStoreBad, api.ErrStoreNone}} {
				on := broken(s, l, bad[0])
				if i != j {
					on = broken(on, order[j], bad[1])
				}
				want := bad[0]
				if j < i {
					want = bad[1]
				}
				if told, e := differs(t, on, a, b); e != want || told != nil {
					t.Errorf("%d and %d: %d; want %d", i, j, e, want)
				}
			}
		}
	}
}

// TestRows: P16.1: each row of the table, what both have in a slice against what is told.
func TestRows(t *testing.T) {
	s := made(t, 200)
	key := func(path ...int) string { return keyAt(small, path...) }
	one, two := sample.Whole(1), sample.Whole(2)
	low, mid, high := key(0, 0, 0), key(0, 0, 1), key(0, 2)
	sides := []table{
		{}, {low: one}, {low: two}, {mid: one}, {high: one}, // buckets
		{low: one, high: one}, {low: two, high: one}, {mid: one, high: one}, // a node
		{low: one, mid: one}, {low: one, mid: two}, {low: one, mid: one, high: one}, {low: two, mid: two, high: two}, // a node over a node
	}
	for i, m := range sides {
		for j, n := range sides {
			for _, rest := range []table{nil, {"a": one}, {key(3, 0): one, key(3, 1): two, "b": one}} {
				more, other := maps.Clone(m), maps.Clone(n)
				maps.Copy(more, rest)
				maps.Copy(other, rest)
				a, b := laid(t, s, small, more), laid(t, s, small, other)
				if l, e := differs(t, s, a, b); e != api.OK || shown(l) != shown(mapDiff(m, n)) {
					t.Errorf("%d, %d: %d, %s", i, j, e, shown(l))
				}
			}
		}
	}
}

// TestForged: P16.1 to P16.3 and P16.6, whatever stands in the store, with room and without: each call goes by the blocks that it reads.
func TestForged(t *testing.T) {
	pool := keyPool()
	told := map[string]int{}
	for at, c := range manyWidths {
		for seed := range 60 {
			d := sample.Dice(1000*at + seed)
			s := made(t, 5000)
			f := anyForger(&d, s, c)
			m := anyMap(&d, c, pool, nil, 40)
			var roots []api.Link
			for range 4 {
				roots = append(roots, f.root(anyMap(&d, c, pool, m, 6)))
				if d.Below(4) == 0 {
					f = anyForger(&d, s, c)
				}
			}
			roots = append(roots, laid(t, s, c, m))
			s = damaged(&d, s)
			any := func() api.Link { return roots[d.Below(len(roots))] }
			for range 4 {
				a, b := any(), any()
				on := s.Copy()
				if d.Below(4) == 0 {
					on = tight(on, d.Below(4))
				}
				l, e := differs(t, on, a, b)
				told[fmt.Sprint("Diff ", e)]++
				_, e = patches(t, on, a, l)
				told[fmt.Sprint("Patch ", e)]++
				_, e = patches(t, on, any(), l)
				told[fmt.Sprint("Patch ", e)]++
				_, _, e = merges(t, on, any(), a, b, d.Below(2) == 0)
				told[fmt.Sprint("Merge ", e)]++
			}
		}
	}
	for _, x := range []string{"Diff 0", "Diff 136", "Diff 137", "Diff 143", "Patch 0", "Patch 135", "Patch 136", "Patch 137", "Patch 143", "Patch 162", "Merge 0", "Merge 135", "Merge 136", "Merge 137", "Merge 143", "Merge 144"} {
		if told[x] < 10 {
			t.Errorf("%s came %d times alone", x, told[x])
		}
	}
}

// tight: a store with room for so many blocks more than stand there.
func tight(s *store.Store, spare int) *store.Store {
	links := s.Links()
	on, e := store.New(len(links) + spare)
	if e != api.OK {
		panic(e)
	}
	for _, l := range links {
		b, e := s.Get(l)
		if e != api.OK {
			b = []byte{0x82, 0x41, 0, 0x80}
		}
		if e := on.Force(l, b); e != api.OK {
			panic(e)
		}
	}
	return on
}

// TestLoose: P16.1: tries of one map that are not the same: nothing is told, and a patch of nothing changes nothing.
func TestLoose(t *testing.T) {
	pool := keyPool()
	unlike := 0
	for at, c := range manyWidths {
		for seed := range 20 {
			d := sample.Dice(1000*at + seed)
			s := made(t, 5000)
			f := anyForger(&d, s, c)
			f.bent = func(path []int, two []api.Value) []api.Value { return two }
			m := anyMap(&d, c, pool, nil, 40)
			a, b := laid(t, s, c, m), f.root(m)
			if a != b {
				unlike++
			}
			for _, w := range [][2]api.Link{{a, b}, {b, a}} {
				if l, e := differs(t, s, w[0], w[1]); e != api.OK || l != nil {
					t.Fatalf("%v, seed %d: Diff: %d, %s", c, seed, e, shown(l))
				}
				if root, e := patches(t, s, w[0], nil); e != api.OK || root != w[0] {
					t.Fatalf("%v, seed %d: Patch: %d", c, seed, e)
				}
				if root, clashes, e := merges(t, s, w[0], w[1], w[0], false); e != api.OK || root != w[1] || clashes != nil {
					t.Fatalf("%v, seed %d: Merge: %d", c, seed, e)
				}
			}
			other := anyMap(&d, c, pool, m, 6)
			if l, e := differs(t, s, b, f.root(other)); e != api.OK || shown(l) != shown(mapDiff(m, other)) {
				t.Fatalf("%v, seed %d: Diff: %d, %s", c, seed, e, shown(l))
			}
		}
	}
	if unlike < 100 {
		t.Errorf("%d tries alone are not as they should be", unlike)
	}
}

// TestOwnPlace: P16.1 and P16.2: a node that is right elsewhere is not right here.
func TestOwnPlace(t *testing.T) {
	s := made(t, 100)
	c := api.Trie{Width: 2, Bucket: 1, Bytes: 2}
	node := put(s, sample.List(two(c, map[int]api.Value{0: bucket(table{keyAt(c, 0, 0): sample.Null()}), 1: bucket(table{keyAt(c, 0, 1): sample.Null()})})...))
	right := put(s, six(c, two(c, map[int]api.Value{0: linkOf(node)})))
	wrong := put(s, six(c, two(c, map[int]api.Value{1: linkOf(node)})))
	twice := put(s, six(c, two(c, map[int]api.Value{0: linkOf(node), 1: linkOf(node)})))
	empty := laid(t, s, c, nil)
	if l, e := differs(t, s, empty, right); e != api.OK || len(l) != 2 {
		t.Errorf("%d", e)
	}
	for i, w := range [][2]api.Link{{empty, wrong}, {wrong, empty}, {right, wrong}, {empty, twice}, {right, twice}, {twice, right}} {
		if l, e := differs(t, s, w[0], w[1]); e != api.ErrTrieNode || l != nil {
			t.Errorf("%d: %d", i, e)
		}
	}
	// The same link in both is not read, wherever it stands.
	more := put(s, six(c, two(c, map[int]api.Value{1: linkOf(node), 3: bucket(table{keyAt(c, 3): sample.Null()})})))
	if l, e := differs(t, s, wrong, more); e != api.OK || len(l) != 1 {
		t.Errorf("%d, %s", e, shown(l))
	}
	set := func(path ...int) []api.Change {
		return []api.Change{{Key: []byte(keysAt(c, 2, path...)[1]), Has: true, New: sample.Null()}}
	}
	for i, w := range []struct {
		root api.Link
		l    []api.Change
		e    api.Errno
	}{{twice, set(0, 2), api.OK}, {twice, set(1, 0), api.ErrTrieNode}, {twice, set(2), api.OK}, {wrong, set(1, 0), api.ErrTrieNode}, {wrong, set(0), api.OK}} {
		if _, e := patches(t, s, w.root, w.l); e != w.e {
			t.Errorf("Patch %d: %d; want %d", i, e, w.e)
		}
	}
}

// ladder: the link of a node over so many levels: both slices of each have one link, that of the level below; those of the last one have end.
func ladder(s *store.Store, c api.Trie, levels int, end api.Link) api.Link {
	for range levels {
		end = put(s, sample.List(two(c, map[int]api.Value{0: linkOf(end), 1: linkOf(end)})...))
	}
	return end
}

// TestLadders: P16.6 and R3: tries that have few blocks and more places than can be gone through.
func TestLadders(t *testing.T) {
	c := api.Trie{Width: 1, Bucket: 1, Bytes: 32}
	s := made(t, 2000)
	lost := func(name string) api.Link {
		return api.Link{Version: 1, Codec: api.CodecTree, Hash: api.HashSha, Digest: strings.Repeat(name, 32)}
	}
	first := keyAt(c, 0, 0, 0)
	last := put(s, sample.List(two(c, map[int]api.Value{way(c, first)[3]: bucket(table{first: sample.Null()})})...))
	var roots []api.Link
	for _, below := range []api.Link{ladder(s, c, 200, lost("a")), ladder(s, c, 200, lost("b")), ladder(s, c, 150, lost("b")), ladder(s, c, 2, last)} {
		roots = append(roots, put(s, six(c, two(c, map[int]api.Value{0: linkOf(below), 1: linkOf(below)}))))
	}
	roots = append(roots, laid(t, s, c, nil), laid(t, s, c, table{first: sample.Null()}))
	for i, a := range roots {
		for j, b := range roots {
			l, e := differs(t, s, a, b)
			if (e == api.OK) != (i == j || min(i, j) >= 4) || (len(l) > 0) != (e == api.OK && i != j) {
				t.Errorf("%d, %d: %d", i, j, e)
			}
			merges(t, s, a, b, roots[(i+j)%len(roots)], i < j)
		}
		patches(t, s, a, []api.Change{{Key: []byte(first), Had: true, Old: sample.Null()}})
		patches(t, s, a, []api.Change{{Key: []byte("x"), Has: true, New: sample.Null()}})
	}
}

// TestDeepest: P16.1 to P16.3: a node at the last of 256 levels.
func TestDeepest(t *testing.T) {
	c := api.Trie{Width: 1, Bucket: 1, Bytes: 32}
	s := made(t, 1000)
	f := forger{store: s, widths: c, loose: func([]int) bool { return true }, bent: func(_ []int, two []api.Value) []api.Value { return two }}
	deep, plain, empty := f.root(letters("a1")), laid(t, s, c, letters("a1")), laid(t, s, c, nil)
	other := f.root(letters("a2"))
	if s.Len() != 2+2*256 {
		t.Fatalf("%d blocks", s.Len())
	}
	for i, w := range []struct {
		a, b api.Link
		want []api.Change
	}{{deep, plain, nil}, {deep, empty, row("a1-")}, {empty, deep, row("a-1")}, {deep, other, row("a12")}, {other, plain, row("a21")}} {
		if l, e := differs(t, s, w.a, w.b); e != api.OK || shown(l) != shown(w.want) {
			t.Errorf("%d: %d, %s", i, e, shown(l))
		}
	}
	if root, e := patches(t, s, deep, row("a12")); e != api.OK || root != other {
		t.Errorf("%d", e)
	}
	if root, e := patches(t, s, deep, row("a1-")); e != api.OK || root != empty {
		t.Errorf("%d", e)
	}
	if root, _, e := merges(t, s, plain, deep, laid(t, s, c, letters("a2")), false); e != api.OK || root != other {
		t.Errorf("%d", e)
	}
}

// TestGreat: P16.4: many keys, in few great blocks and in many small ones.
func TestGreat(t *testing.T) {
	for _, c := range []api.Trie{{Width: 8, Bucket: 16, Bytes: 32}, {Width: 5, Bucket: 3, Bytes: 4}} {
		s := made(t, 5000)
		m, n := table{}, table{}
		for i := range 2000 {
			key := "key" + strconv.Itoa(i)
			m[key] = sample.Whole(uint64(i))
			if i%3 > 0 {
				n[key] = sample.Whole(uint64(i % 7))
			}
			n["new"+key] = sample.Null()
		}
		a, b := laid(t, s, c, m), laid(t, s, c, n)
		l, e := Diff(s, a, b)
		if e != api.OK || shown(l) != shown(mapDiff(m, n)) {
			t.Fatalf("%v: Diff: %d", c, e)
		}
		if root, e := Patch(s, a, l); e != api.OK || root != b {
			t.Errorf("%v: Patch: %d", c, e)
		}
		if root, e := Patch(s, b, turned(l)); e != api.OK || root != a {
			t.Errorf("%v: Patch back: %d", c, e)
		}
		if root, clashes, e := Merge(s, a, a, b, false); e != api.OK || root != b || clashes != nil {
			t.Errorf("%v: Merge: %d", c, e)
		}
	}
}
