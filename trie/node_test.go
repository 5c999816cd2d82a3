package trie

// What is a right node, and what is none; ranges; one node told; whose memory it is.

import (
	"fmt"
	"maps"
	"slices"
	"strings"
	"testing"

	"trellis/api"
	"trellis/sample"
	"trellis/store"
	"trellis/value"
)

// laid lays the block of a tree into a store.
func laid(t *testing.T, s *store.Store, v api.Value) api.Link {
	t.Helper()
	blocks := map[api.Link]string{}
	l := laidTree(blocks, v)
	laidAll(s, blocks)
	return l
}

func entryList(key string, n uint64) api.Value { return sample.List(octets(key), sample.Whole(n)) }

func linkOf(l api.Link) api.Value { return api.Value{Kind: api.KindLink, Link: l} }

// wrong: are these no root's six items for each call?
func wrong(t *testing.T, what string, s *store.Store, root api.Link, want api.Errno) {
	t.Helper()
	if c, e := Widths(s, root); e != want || c != (api.Trie{}) {
		t.Errorf("%s: Widths: %v, %d; want %d", what, c, e, want)
	}
	if l, e := Node(s, small, nil, root); e != want || l != nil {
		t.Errorf("%s: Node: %v, %d; want %d", what, l, e, want)
	}
	fails(t, s, root, "b", want)
	agrees(t, s, root)
	if n, e := Check(s, root); e != want || n != 0 {
		t.Errorf("%s: Check: %d, %d; want %d", what, n, e, want)
	}
}

// TestWrongRoots: P14.1 to P14.7, roots that are none.
func TestWrongRoots(t *testing.T) {
	s := made(t, 1000)
	six := func(items ...api.Value) api.Value { return sample.List(items...) }
	trie, one, two, bits, none := sample.Text("trie"), sample.Whole(1), sample.Whole(2), octets("\x00"), sample.List()
	good := []api.Value{trie, two, one, one, bits, none}
	if root := laid(t, s, six(good...)); keysOf(s, root) != "" {
		t.Fatalf("a good root is none")
	}
	for at, others := range [][]api.Value{
		{sample.Text("trie "), sample.Text("Trie"), sample.Text(""), octets("trie"), sample.Null(), sample.List(trie)},
		{sample.Whole(0), sample.Whole(9), sample.Whole(3 << 32), sample.Whole(1<<64 - 1), {Kind: api.KindInt, Neg: true, N: 1}, sample.Float(0x4000000000000000), sample.Text("2"), sample.Null()},
		{sample.Whole(0), sample.Whole(17), sample.Whole(1 << 63), {Kind: api.KindInt, Neg: true}, sample.Float(0x3ff0000000000000), sample.List()},
		{sample.Whole(0), sample.Whole(33), sample.Whole(1<<64 - 1), {Kind: api.KindInt, Neg: true}, octets("1")},
		{octets(""), octets("\x00\x00"), octets("\x10"), octets("\x01"), octets("\x80"), sample.Text("\x00"), sample.Whole(0), sample.Null()},
		{sample.List(entryList("b", 1)), sample.List(sample.Null()), sample.Null(), octets(""), sample.Map(""), linkOf(treeLink([]byte{0x80}))},
	} {
		for _, v := range others {
			bad := slices.Clone(good)
			bad[at] = v
			wrong(t, fmt.Sprint(at, v), s, laid(t, s, six(bad...)), api.ErrTrieNode)
		}
	}
	for n := range 6 {
		wrong(t, fmt.Sprint(n, " items"), s, laid(t, s, six(good[:n]...)), api.ErrTrieNode)
	}
	wrong(t, "7 items", s, laid(t, s, six(append(slices.Clone(good), none)...)), api.ErrTrieNode)
	wrong(t, "a node", s, laid(t, s, sample.List(octets("\x01"), sample.List(sample.List(entryList("b", 1))))), api.ErrTrieNode)
	wrong(t, "a map", s, laid(t, s, sample.Map("trie", six(good...))), api.ErrTrieNode)
	wrong(t, "a map of six", s, laid(t, s, sample.Map("a b c d e f", good...)), api.ErrTrieNode)
	wrong(t, "a link", s, laid(t, s, linkOf(laid(t, s, six(good...)))), api.ErrTrieNode)
}

// TestWrongLinks: roots that are no link, under which nothing or something else stands, or that are no tree block's.
func TestWrongLinks(t *testing.T) {
	s, root := filled(t, small, "b")
	b, _ := s.Get(root)
	wrong(t, "no link", s, api.Link{}, api.ErrStoreLink)
	wrong(t, "version 2", s, api.Link{Version: 2, Codec: api.CodecTree, Hash: api.HashSha, Digest: root.Digest}, api.ErrStoreLink)
	wrong(t, "nothing", s, treeLink([]byte("x")), api.ErrStoreNone)
	raw, old := root, root
	raw.Codec = api.CodecRaw
	old.Version, old.Codec = 0, api.CodecOld
	wrong(t, "nothing of another codec", s, raw, api.ErrStoreNone)
	for _, l := range []api.Link{raw, old} {
		if e := s.Force(l, b); e != api.OK {
			t.Fatal(e)
		}
		wrong(t, "another codec", s, l, api.ErrTrieNode)
		if e := s.Force(l, nil); e != api.OK {
			t.Fatal(e)
		}
		wrong(t, "another codec, broken", s, l, api.ErrStoreBad)
	}
	wrong(t, "the bytes themselves", s, api.Link{Version: 1, Codec: api.CodecTree, Digest: string(b)}, api.ErrTrieNode)
	wrong(t, "the bytes themselves, no tree", s, api.Link{Version: 1, Codec: api.CodecTree}, api.ErrTrieNode)
	for _, bytes := range []string{"", "\xff", string(b) + "\x00", string(b[:len(b)-1]), "\x98\x06" + string(b[1:])} {
		if e := s.Force(treeLink([]byte(bytes)), []byte(bytes)); e != api.OK {
			t.Fatal(e)
		}
		wrong(t, fmt.Sprintf("% x", bytes), s, treeLink([]byte(bytes)), api.ErrTrieNode)
	}
	if e := s.Force(root, b[1:]); e != api.OK {
		t.Fatal(e)
	}
	wrong(t, "broken", s, root, api.ErrStoreBad)
}

// TestWrongNodes: what makes a node no right one, below the top; the same in the root where it can be there.
func TestWrongNodes(t *testing.T) {
	// Of two bits: b has the slices 0, 3; c 0, 2; a 3, 0. In the bucket of 2 there is room for c and another one.
	c := api.Trie{Width: 2, Bucket: 2, Bytes: 1}
	var under []string
	for i := 0; len(under) < 4; i++ {
		key := fmt.Sprint("x", i)
		if way(c, key)[0] == 0 && way(c, key)[1] == 2 {
			under = append(under, key)
		}
	}
	slices.Sort(under)
	x, y, z := under[0], under[1], under[2]
	tree := linkOf(treeLink([]byte{0x80}))
	raw, old, inline := tree, tree, tree
	raw.Link.Codec = api.CodecRaw
	old.Link.Version, old.Link.Codec = 0, api.CodecOld
	inline.Link.Hash, inline.Link.Digest = api.HashNone, "\x80"
	bucket := func(keys ...string) api.Value {
		v := sample.List()
		for i, key := range keys {
			v.Items = append(v.Items, entryList(key, uint64(i)))
		}
		return v
	}
	with := func(v api.Value) api.Value { return sample.List(sample.List(octets("c"), v)) }
	keyed := func(v api.Value) api.Value { return sample.List(sample.List(v, sample.Null())) }
	many := sample.Within(sample.List(), 512, "l")
	for i, p := range []struct {
		bits     string
		elements []api.Value
		right    bool
	}{
		{"\x04", []api.Value{bucket("c")}, true}, {"\x0c", []api.Value{bucket("c"), bucket("b")}, true}, {"\x04", []api.Value{bucket(x, y)}, true},
		{"\x04", []api.Value{tree}, true}, {"\x0c", []api.Value{tree, bucket("b")}, true}, {"\x0d", []api.Value{tree, tree, tree}, true},
		{"", nil, false}, {"\x00", nil, false}, {"\x00\x00", nil, false}, {"\x00", []api.Value{bucket("c")}, false},
		{"\x04", nil, false}, {"\x0c", []api.Value{bucket("c")}, false}, {"\x04", []api.Value{bucket("c"), bucket("b")}, false},
		{"\x14", []api.Value{bucket("c")}, false}, {"\x14", []api.Value{bucket("c"), tree}, false}, {"\x84", []api.Value{bucket("c"), tree}, false},
		{"\x04\x00", []api.Value{bucket("c")}, false}, {"", []api.Value{bucket("c")}, false}, {"\x00\x04", []api.Value{bucket("c")}, false},
		{"\x02", []api.Value{bucket("c")}, false}, {"\x08", []api.Value{bucket("c")}, false}, {"\x0c", []api.Value{bucket("b"), bucket("c")}, false},
		{"\x01", []api.Value{bucket("a")}, false}, {"\x09", []api.Value{bucket("a"), bucket("b")}, false},
		{"\x04", []api.Value{bucket()}, false}, {"\x04", []api.Value{bucket(x, y, z)}, false}, {"\x04", []api.Value{bucket(y, x)}, false},
		{"\x04", []api.Value{bucket(x, x)}, false}, {"\x04", []api.Value{bucket("b", "c")}, false}, {"\x04", []api.Value{bucket("c", "b")}, false},
		{"\x04", []api.Value{raw}, false}, {"\x04", []api.Value{old}, false}, {"\x04", []api.Value{inline}, false},
		{"\x04", []api.Value{sample.Null()}, false}, {"\x04", []api.Value{octets("c")}, false}, {"\x04", []api.Value{sample.Map("c", sample.Null())}, false},
		{"\x04", []api.Value{sample.List(sample.Null())}, false}, {"\x04", []api.Value{sample.List(sample.List(octets("c")))}, false},
		{"\x04", []api.Value{sample.List(sample.List(octets("c"), sample.Null(), sample.Null()))}, false}, {"\x04", []api.Value{sample.List(sample.Map("c d", octets("c"), sample.Null()))}, false},
		{"\x04", []api.Value{keyed(sample.Text("c"))}, false}, {"\x04", []api.Value{keyed(sample.Null())}, false}, {"\x04", []api.Value{sample.List(octets("c"), sample.Null())}, false},
		{"\x04", []api.Value{with(many.Items[0])}, true}, {"\x04", []api.Value{with(many)}, false},
		{"\x04", []api.Value{with(octets(strings.Repeat("v", 4093)))}, true}, {"\x04", []api.Value{with(octets(strings.Repeat("v", 4094)))}, false},
	} {
		s := made(t, 100)
		l := laid(t, s, sample.List(octets(p.bits), sample.List(p.elements...)))
		root := laid(t, s, sixOf(c, []api.Value{octets("\x01"), sample.List(linkOf(l))}))
		want := api.ErrTrieNode
		if p.right {
			want = api.OK
		}
		if list, e := Node(s, c, []int{0}, l); e != want || len(list) != len(p.elements) && e == api.OK || e != api.OK && list != nil {
			t.Errorf("%d: Node: %v, %d; want %d", i, list, e, want)
		}
		agrees(t, s, root)
		if !p.right {
			fails(t, s, root, "c", want)
			fails(t, s, root, "b", want)
		}
		// Off the path nothing is looked at.
		gets(t, s, root, "a")
		if _, ok := applies(t, s, root, nil, []api.Entry{{Key: []byte("a"), Value: sample.Null()}}); !ok {
			t.Errorf("%d: Set off the path is refused", i)
		}
		for _, key := range []string{"a", "b", "c", x} {
			finds(t, s, root, []byte(key))
			applies(t, s, root, byteKeys(key), nil)
			applies(t, s, root, nil, []api.Entry{{Key: []byte(key), Value: sample.Null()}})
		}
	}
}

// TestNodeAsMap: a map is no node, though its items are bits and elements.
func TestNodeAsMap(t *testing.T) {
	s := made(t, 10)
	two := []api.Value{octets("\x04"), sample.List(sample.List(entryList("c", 1)))}
	if _, e := Node(s, small, []int{0}, laid(t, s, sample.List(two...))); e != api.OK {
		t.Errorf("Node of a list: %d", e)
	}
	if l, e := Node(s, small, []int{0}, laid(t, s, sample.Map("a b", two...))); e != api.ErrTrieNode || l != nil {
		t.Errorf("Node of a map: %v, %d", l, e)
	}
}

// TestLongKeyInNode: a key of one byte more than MaxKey makes a node no right one, one of just as many does not.
func TestLongKeyInNode(t *testing.T) {
	for _, n := range []int{api.MaxKey, api.MaxKey + 1} {
		key := strings.Repeat("k", n)
		s := made(t, 10)
		bits := octets(string([]byte{1 << way(small, key)[0]}))
		root := laid(t, s, sixOf(small, []api.Value{bits, sample.List(sample.List(entryList(key, 1)))}))
		want := api.ErrTrieNode
		if n == api.MaxKey {
			want = api.OK
		}
		if _, e := Check(s, root); e != want {
			t.Errorf("%d: Check: %d", n, e)
		}
	}
}

// TestLastLevel: at the last level there are no links, one level above there are.
func TestLastLevel(t *testing.T) {
	for _, c := range []api.Trie{{Width: 8, Bucket: 1, Bytes: 1}, {Width: 5, Bucket: 1, Bytes: 1}, {Width: 3, Bucket: 1, Bytes: 1}, {Width: 1, Bucket: 1, Bytes: 32}, {Width: 7, Bucket: 1, Bytes: 32}} {
		s, bits := made(t, 10), make([]byte, (1<<c.Width+7)/8)
		bits[0] = 1
		two := []api.Value{octets(string(bits)), sample.List(linkOf(treeLink([]byte{0x80})))}
		l, root := laid(t, s, sample.List(two...)), laid(t, s, sixOf(c, two))
		last := depthOf(c) - 1
		for level := 1; level <= last+1; level++ {
			want := api.OK
			if level == last {
				want = api.ErrTrieNode
			} else if level > last {
				want = api.ErrTrieConfig
			}
			if _, e := Node(s, c, make([]int, level), l); e != want {
				t.Errorf("%v: Node at %d: %d; want %d", c, level, e, want)
			}
		}
		want := api.OK
		if last == 0 {
			want = api.ErrTrieNode
		}
		if _, e := Widths(s, root); e != want {
			t.Errorf("%v: Widths: %d; want %d", c, e, want)
		}
	}
}

// TestOwnPlace: a node is right at its own place alone: not where other slices are above, though its own slice would be right.
func TestOwnPlace(t *testing.T) {
	c := api.Trie{Width: 2, Bucket: 1, Bytes: 2}
	blocks := map[api.Link]string{}
	n := knotOf(c, table{"b": sample.Null()}, 1)
	two := twoOf(blocks, c, n)
	s := made(t, 10)
	l := laid(t, s, sample.List(two...))
	for first := range 4 {
		want := api.ErrTrieNode
		if first == way(c, "b")[0] {
			want = api.OK
		}
		if _, e := Node(s, c, []int{first}, l); e != want {
			t.Errorf("Node above %d: %d; want %d", first, e, want)
		}
	}
	deep := twoOf(blocks, c, knotOf(c, table{"b": sample.Null()}, 3))
	l = laid(t, s, sample.List(deep...))
	for at := range 3 {
		above := slices.Clone(way(c, "b")[:3])
		if _, e := Node(s, c, above, l); e != api.OK {
			t.Errorf("Node: %d", e)
		}
		above[at] ^= 1
		if _, e := Node(s, c, above, l); e != api.ErrTrieNode {
			t.Errorf("Node with another slice at %d: %d", at, e)
		}
	}
}

// TestNode: P14.7, each node of a trie, and what is refused.
func TestNode(t *testing.T) {
	pool := keyPool()
	for at, c := range manyWidths {
		d := sample.Dice(at)
		m := anyMap(&d, c, pool)
		blocks := map[api.Link]string{}
		top := knotOf(c, m, 0)
		root := rootOf(blocks, c, top)
		s := made(t, 1000)
		laidAll(s, blocks)
		var same func(n knot, above []int, l api.Link)
		same = func(n knot, above []int, l api.Link) {
			asked := c
			if len(above) == 0 {
				asked = []api.Trie{c, {}, {Width: 9, Bucket: -1}, {Width: 3, Bucket: 5, Bytes: 9}}[d.Below(4)]
			}
			list, e := Node(s, asked, above, l)
			if e != api.OK || len(list) != len(n) {
				t.Fatalf("%v: Node(%v): %v, %d; want %v", c, above, list, e, n)
			}
			for i, slice := range slices.Sorted(maps.Keys(n)) {
				x := n[slice]
				var keys []string
				for _, y := range list[i].Entries {
					keys = append(keys, string(y.Key))
					if !sameValue(y.Value, value.Sorted(x.bucket[string(y.Key)])) {
						t.Errorf("%v: Node(%v): %v", c, above, y)
					}
				}
				if list[i].Slice != slice || !slices.Equal(keys, slices.Sorted(maps.Keys(x.bucket))) || (list[i].Below == api.Link{}) != (x.node == nil) {
					t.Errorf("%v: Node(%v): %v", c, above, list[i])
				}
				if x.node != nil {
					same(x.node, slices.Concat(above, []int{slice}), list[i].Below)
				}
			}
		}
		same(top, nil, root)
	}
}

// TestNodeRefused: P14.7, widths and slices that may not be; these ahead of the block's error.
func TestNodeRefused(t *testing.T) {
	s := made(t, 10)
	nowhere := treeLink([]byte("x"))
	for _, p := range []struct {
		c     api.Trie
		above []int
		l     api.Link
		e     api.Errno
	}{
		{small, nil, nowhere, api.ErrStoreNone}, {small, []int{}, api.Link{}, api.ErrStoreLink}, {api.Trie{}, nil, nowhere, api.ErrStoreNone},
		{small, []int{0}, nowhere, api.ErrStoreNone}, {small, []int{3, 3, 3}, nowhere, api.ErrStoreNone}, {small, []int{3, 0, 3}, api.Link{}, api.ErrStoreLink},
		{small, []int{0, 0, 0, 0}, nowhere, api.ErrTrieConfig}, {small, []int{0, 0, 0, 0, 0}, nowhere, api.ErrTrieConfig},
		{small, []int{4}, api.Link{}, api.ErrTrieConfig}, {small, []int{-1}, nowhere, api.ErrTrieConfig}, {small, []int{0, 0, 4}, nowhere, api.ErrTrieConfig},
		{small, []int{0, -1 << 63}, nowhere, api.ErrTrieConfig}, {small, []int{1<<63 - 1}, nowhere, api.ErrTrieConfig}, {small, []int{-1, 0}, nowhere, api.ErrTrieConfig},
		{api.Trie{}, []int{0}, nowhere, api.ErrTrieConfig}, {api.Trie{Width: 9, Bucket: 1, Bytes: 32}, []int{0}, nowhere, api.ErrTrieConfig},
		{api.Trie{Width: 2, Bucket: 17, Bytes: 1}, []int{0}, nowhere, api.ErrTrieConfig}, {api.Trie{Width: 2, Bucket: 0, Bytes: 1}, []int{0}, nowhere, api.ErrTrieConfig},
		{api.Trie{Width: 2, Bucket: 1, Bytes: 33}, []int{0}, nowhere, api.ErrTrieConfig}, {api.Trie{Width: 8, Bucket: 1, Bytes: 1}, []int{0}, nowhere, api.ErrTrieConfig},
		{api.Trie{Width: 8, Bucket: 16, Bytes: 32}, []int{255, 0, 255}, nowhere, api.ErrStoreNone}, {api.Trie{Width: 8, Bucket: 16, Bytes: 32}, []int{255, 256}, nowhere, api.ErrTrieConfig},
		{api.Trie{Width: 1, Bucket: 1, Bytes: 32}, make([]int, 255), nowhere, api.ErrStoreNone}, {api.Trie{Width: 1, Bucket: 1, Bytes: 32}, make([]int, 256), nowhere, api.ErrTrieConfig},
	} {
		if l, e := Node(s, p.c, p.above, p.l); e != p.e || l != nil {
			t.Errorf("Node(%v, %.5v): %v, %d; want %d", p.c, p.above, l, e, p.e)
		}
	}
}

// TestSmallNode: P14.4, P14.6 and P14.10, nodes that should be buckets: a key that is not there leaves them, one that is there ends them.
func TestSmallNode(t *testing.T) {
	c := api.Trie{Width: 2, Bucket: 2, Bytes: 1}
	inner := knot{2: {bucket: table{"c": sample.Whole(1)}}, 3: {bucket: table{"b": sample.Whole(2)}}}
	blocks := map[api.Link]string{}
	root := rootOf(blocks, c, knot{0: {node: inner}, 3: {bucket: table{"a": sample.Whole(3)}}})
	s := made(t, 100)
	laidAll(s, blocks)
	if n, e := Check(s, root); n != 0 || e != api.ErrTrieForm {
		t.Errorf("Check: %d, %d", n, e)
	}
	if keys := keysOf(s, root); keys != "c b a" {
		t.Errorf("All: %s", keys)
	}
	if l, had, e := Delete(s, root, []byte("not there")); l != root || had || e != api.OK {
		t.Errorf("Delete: %v, %d", had, e)
	}
	for key := range way(c, "") {
		applies(t, s, root, byteKeys(fmt.Sprint(key)), nil)
	}
	for _, x := range []struct {
		key  string
		want table
	}{{"b", table{"c": sample.Whole(1), "a": sample.Whole(3)}}, {"c", table{"b": sample.Whole(2), "a": sample.Whole(3)}}} {
		want := trieOf(map[api.Link]string{}, c, x.want)
		if l, had, e := Delete(s, root, []byte(x.key)); l != want || !had || e != api.OK {
			t.Errorf("Delete(%s): %v, %d, another root: %v", x.key, had, e, l != want)
		}
	}
	// Where the key goes off the path of the small node, that stays as it is.
	l, had, e := Delete(s, root, []byte("a"))
	if !had || e != api.OK {
		t.Errorf("Delete: %v, %d", had, e)
	}
	if _, e := Check(s, l); e != api.ErrTrieForm {
		t.Errorf("Check: %d", e)
	}
	// A chain of nodes with one entry in all goes whole, with its bit.
	chain := knot{0: {node: knot{3: {node: knot{3: {bucket: table{"b": sample.Whole(2)}}}}}}}
	root = rootOf(blocks, c, chain)
	laidAll(s, blocks)
	if l, had, e := Delete(s, root, []byte("b")); l != trieOf(blocks, c, nil) || !had || e != api.OK {
		t.Errorf("Delete: %v, %d", had, e)
	}
}

// TestRanges: P14.5, ranges that are left early and ranged over again; blocks that are lost and come back within.
func TestRanges(t *testing.T) {
	s, root := filled(t, small, "b", "c", "a")
	top, _ := Node(s, small, nil, root)
	below := top[0].Below
	b, _ := s.Get(below)
	all := All(s, root)
	for n := 1; n <= 3; n++ {
		text := ""
		for y, e := range all {
			text += fmt.Sprint(string(y.Key), int(e), " ")
			if len(text) == 3*n {
				break
			}
		}
		if text != "c0 b0 a0 "[:3*n] {
			t.Errorf("left behind %d: %s", n, text)
		}
	}
	// What has been read is not asked for again in one range; the next one begins anew.
	text := ""
	for y, e := range all {
		text += fmt.Sprint(string(y.Key), int(e), " ")
		s.Delete(below)
		s.Delete(root)
	}
	if text != "c0 b0 a0 " {
		t.Errorf("with its blocks lost within: %s", text)
	}
	if keys := keysOf(s, root); keys != "136" {
		t.Errorf("without a root: %s", keys)
	}
	s, root = filled(t, small, "b", "c", "a")
	all = All(s, root)
	s.Delete(below)
	for y, e := range all {
		if e != api.ErrStoreNone || y.Key != nil || !sameValue(y.Value, api.Value{}) {
			t.Errorf("%v, %d", y, e)
		}
	}
	if e := s.Force(below, b[1:]); e != api.OK {
		t.Fatal(e)
	}
	if keys := keysOf(s, root); keys != "137" {
		t.Errorf("with a broken block: %s", keys)
	}
	if _, e := s.Add(api.Block{Link: below, Bytes: b}); e != api.OK {
		t.Fatal(e)
	}
	text = ""
	for y, e := range all {
		text += fmt.Sprint(string(y.Key), int(e), " ")
	}
	if text != "c0 b0 a0 " {
		t.Errorf("mended: %s", text)
	}
}

// TestTurns: P14.5, a node is read when its turn comes, not ahead of it: so one may be lost, or laid, in the body.
func TestTurns(t *testing.T) {
	c := api.Trie{Width: 2, Bucket: 1, Bytes: 4}
	m := table{}
	for i := range 40 {
		m[fmt.Sprint("key", i)] = sample.Whole(uint64(i))
	}
	blocks := map[api.Link]string{}
	root := trieOf(blocks, c, m)
	s := made(t, 1000)
	laidAll(s, blocks)
	top, _ := Node(s, c, nil, root)
	last := top[3].Below
	want, _, _ := plainAll(s, root)
	var behind int // the first entry of the last slice
	for i, p := range want {
		if way(c, p.key)[0] == 3 {
			behind = i
			break
		}
	}
	s.Delete(last)
	count := 0
	for y, e := range All(s, root) {
		if e != api.OK || string(y.Key) != want[count].key {
			t.Fatalf("%d: %s, %d; want %s", count, y.Key, e, want[count].key)
		}
		if count++; count == behind {
			laidAll(s, map[api.Link]string{last: blocks[last]})
		}
	}
	if count != len(m) {
		t.Errorf("%d entries", count)
	}
	count = 0
	for y, e := range All(s, root) {
		if count == behind {
			if e != api.ErrStoreNone || y.Key != nil {
				t.Errorf("%s, %d", y.Key, e)
			}
		} else if e != api.OK {
			t.Errorf("%d: %d", count, e)
		}
		if count++; count == behind {
			s.Delete(last)
		}
	}
	if count != behind+1 {
		t.Errorf("%d pairs; want %d", count, behind+1)
	}
}

// TestChecksInOrder: P14.6, the first error counts: a node that is too small ahead of a lost one, and the other way round.
func TestChecksInOrder(t *testing.T) {
	c := api.Trie{Width: 2, Bucket: 2, Bytes: 1}
	tiny := knot{0: {bucket: table{}}}
	for key := range 1000 {
		if k := fmt.Sprint(key); way(c, k)[0] == 1 && way(c, k)[1] == 0 {
			tiny[0].bucket[k] = sample.Null()
			break
		}
	}
	lost := spot{link: treeLink([]byte("x"))}
	for _, p := range []struct {
		top knot
		e   api.Errno
	}{{knot{1: {node: tiny}, 2: lost}, api.ErrTrieForm}, {knot{0: lost, 1: {node: tiny}}, api.ErrStoreNone}, {knot{1: {node: tiny}}, api.ErrTrieForm}} {
		blocks := map[api.Link]string{}
		root := rootOf(blocks, c, p.top)
		s := made(t, 10)
		laidAll(s, blocks)
		if n, e := Check(s, root); n != 0 || e != p.e {
			t.Errorf("Check: %d, %d; want %d", n, e, p.e)
		}
		agrees(t, s, root)
	}
}

// TestLostOffPath: P14.10, Get, Set and Delete read the blocks on the key's path alone.
func TestLostOffPath(t *testing.T) {
	c := api.Trie{Width: 2, Bucket: 1, Bytes: 4}
	var keys []string
	for i := range 40 {
		keys = append(keys, fmt.Sprint("key", i))
	}
	s, root := filled(t, c, keys...)
	top, _ := Node(s, c, nil, root)
	for _, x := range top {
		s := s.Copy()
		s.Delete(x.Below)
		for i, key := range keys {
			if way(c, key)[0] == x.Slice {
				fails(t, s, root, key, api.ErrStoreNone)
				continue
			}
			gets(t, s, root, key, uint64(i+1))
			applies(t, s, root, nil, []api.Entry{{Key: []byte(key), Value: sample.Null()}})
			applies(t, s, root, byteKeys(key), nil)
		}
		if _, e := Entries(s, root); e != api.ErrStoreNone {
			t.Errorf("Entries: %d", e)
		}
	}
}

// TestRoom: P14.3, P14.4 and P14.12, a store without room for all new nodes: nothing has changed.
func TestRoom(t *testing.T) {
	c := api.Trie{Width: 1, Bucket: 1, Bytes: 4}
	keys := alike(13, 3)
	full, deep := filled(t, c, keys...)
	if full.Len() < 14 {
		t.Fatalf("%d blocks", full.Len())
	}
	blocks := map[api.Link]string{}
	root := trieOf(blocks, c, table{keys[0]: sample.Null()})
	in := []api.Entry{{Key: []byte(keys[1]), Value: sample.Null()}}
	_, _, more, _ := plainApply(full, deep, nil, in)
	refused := 0
	for room := 1; room < 30; room++ {
		s := made(t, room)
		laidAll(s, blocks)
		if _, ok := applies(t, s, root, nil, in); !ok {
			refused++
		}
	}
	if refused < 13 {
		t.Errorf("%d are refused", refused)
	}
	// With the room just taken up: what stands already needs none.
	s := made(t, full.Len())
	laidAll(s, standing(full))
	for _, key := range keys {
		if l, e := Set(s, deep, []byte(key), mustGet(t, s, deep, key)); l != deep || e != api.OK {
			t.Errorf("Set of what is there: %d", e)
		}
		applies(t, s, deep, byteKeys(key), nil)
	}
	applies(t, s, deep, nil, in)
	if len(more) == 0 {
		t.Errorf("no new blocks")
	}
	// A broken block that is made again is mended.
	again, l := filled(t, c, keys...)
	before, _, e := Delete(again, l, []byte(keys[2]))
	if e != api.OK || again.Force(l, nil) != api.OK {
		t.Fatal(e)
	}
	if m, e := Set(again, before, []byte(keys[2]), sample.Whole(3)); m != l || e != api.OK {
		t.Errorf("Set: %d", e)
	}
	if n, e := Check(again, l); n != 3 || e != api.OK {
		t.Errorf("Check: %d, %d", n, e)
	}
}

func mustGet(t *testing.T, s *store.Store, root api.Link, key string) api.Value {
	t.Helper()
	v, has, e := Get(s, root, []byte(key))
	if !has || e != api.OK {
		t.Fatalf("Get(%q): %v, %d", key, has, e)
	}
	return v
}

// TestApply: P14.12, several keys at once, and one key both ways; which error counts.
func TestApply(t *testing.T) {
	s, root := filled(t, small, "b", "c", "a")
	if l, e := Apply(s, root, nil, nil); l != root || e != api.OK {
		t.Errorf("of nothing: %d", e)
	}
	if l, e := Apply(s, root, byteKeys("x", "y", "x"), nil); l != root || e != api.OK {
		t.Errorf("of keys that are not there: %d", e)
	}
	in := func(key string, n uint64) api.Entry { return api.Entry{Key: []byte(key), Value: sample.Whole(n)} }
	for i, p := range []struct {
		gone []string
		l    []api.Entry
		want table
	}{
		{[]string{"b"}, []api.Entry{in("b", 9)}, table{"b": sample.Whole(9), "c": sample.Whole(2), "a": sample.Whole(3)}},
		{[]string{"b", "b"}, nil, table{"c": sample.Whole(2), "a": sample.Whole(3)}},
		{nil, []api.Entry{in("b", 8), in("b", 9)}, table{"b": sample.Whole(9), "c": sample.Whole(2), "a": sample.Whole(3)}},
		{[]string{"a", "b", "c"}, []api.Entry{in("", 7)}, table{"": sample.Whole(7)}},
		{[]string{"c", "b", "a", "x"}, nil, nil},
		{[]string{"c", "b", "a"}, []api.Entry{in("a", 3), in("b", 1), in("c", 2)}, table{"b": sample.Whole(1), "c": sample.Whole(2), "a": sample.Whole(3)}},
	} {
		was := standing(s)
		blocks := maps.Clone(was)
		want := trieOf(blocks, small, p.want)
		if l, e := Apply(s, root, byteKeys(p.gone...), p.l); l != want || e != api.OK {
			t.Errorf("%d: %d, another root: %v", i, e, l != want)
		}
		if !maps.Equal(standing(s), blocks) {
			t.Errorf("%d: other blocks stand than the map's", i)
		}
	}
	// All paths are read, gone's first, ahead of the first change.
	top, _ := Node(s, small, nil, root)
	s.Delete(top[0].Below)
	long := alike(8, 2)
	if _, e := Apply(s, root, nil, []api.Entry{in(long[0], 1), in(long[1], 2), in("b", 1)}); e != api.ErrStoreNone {
		t.Errorf("lost on a later path: %d", e)
	}
	bad := laid(t, s, sixOf(small, []api.Value{octets("\x09"), sample.List(linkOf(top[0].Below), linkOf(laid(t, s, sample.Null())))}))
	if _, e := Apply(s, bad, byteKeys("a"), []api.Entry{in("b", 1)}); e != api.ErrTrieNode {
		t.Errorf("gone's path comes first: %d", e)
	}
	if _, e := Apply(s, bad, byteKeys("b"), []api.Entry{in("a", 1)}); e != api.ErrStoreNone {
		t.Errorf("gone's path comes first: %d", e)
	}
}

// entriesOf tells entries as values, whose lists can be held apart.
func entriesOf(list []api.Entry) []api.Value {
	var values []api.Value
	for _, y := range list {
		values = append(values, api.Value{Bytes: y.Key}, y.Value)
	}
	return values
}

// TestToldIsNew: P14.11 and R2, what is told is the caller's own.
func TestToldIsNew(t *testing.T) {
	c := api.Trie{Width: 2, Bucket: 2, Bytes: 4}
	d := sample.Dice(1)
	s, root := begun(t, c)
	for i := range 30 {
		root = sets(t, s, root, fmt.Sprint("key", i), d.Tree(3))
	}
	was := standing(s)
	told := func() []api.Value {
		var values []api.Value
		for i := range 30 {
			values = append(values, mustGet(t, s, root, fmt.Sprint("key", i)))
		}
		list, _ := Entries(s, root)
		values = append(values, entriesOf(list)...)
		for range 2 {
			for y := range All(s, root) {
				values = append(values, entriesOf([]api.Entry{y})...)
			}
		}
		top, _ := Node(s, c, nil, root)
		for _, x := range top {
			list, _ := Node(s, c, []int{x.Slice}, x.Below)
			for _, z := range list {
				values = append(values, entriesOf(z.Entries)...)
			}
		}
		return values
	}
	first := told()
	var kept []api.Value
	for _, v := range first {
		kept = append(kept, sample.Again(v))
	}
	if !sample.Apart(first...) {
		t.Errorf("two answers share memory")
	}
	if !slices.EqualFunc(told(), kept, sameValue) || !maps.Equal(standing(s), was) {
		t.Errorf("what was told was written over, and other things are told")
	}
	// Lists of elements and entries, their spare room too.
	one, _ := Node(s, c, nil, root)
	two, _ := Node(s, c, nil, root)
	clear(one[:cap(one)])
	if two[0].Slice == 0 && two[0].Below == (api.Link{}) && two[0].Entries == nil {
		t.Errorf("two answers of Node share memory")
	}
	// Within a range the body may write over what it is told.
	count := 0
	for y, e := range All(s, root) {
		if e != api.OK {
			t.Fatalf("%d", e)
		}
		sample.Apart(entriesOf([]api.Entry{y})...)
		count++
	}
	if count != 30 {
		t.Errorf("%d entries", count)
	}
}

// TestHandedIn: P14.11 and R2, what is handed in is neither changed nor kept, its spare room too.
func TestHandedIn(t *testing.T) {
	pool := keyPool()
	for seed := range 40 {
		d := sample.Dice(seed)
		c := manyWidths[d.Below(len(manyWidths))]
		s, root := begun(t, c)
		for range 10 {
			gone, in := anyChange(&d, pool)
			above := make([]int, 3, 9)
			texts := fmt.Sprint(gone, in)
			want, _, _, _ := plainApply(s, root, gone, in)
			l, e := Apply(s, root, gone, in)
			for _, y := range in {
				Set(s, root, y.Key, y.Value)
				Get(s, root, y.Key)
				Delete(s, root, y.Key)
			}
			Node(s, c, above, root)
			if fmt.Sprint(gone, in) != texts || !slices.Equal(above[:9], make([]int, 9)) {
				t.Fatalf("seed %d: what was handed in was changed; it was %s", seed, texts)
			}
			was := standing(s)
			sample.Apart(entriesOf(in)...)
			for _, key := range gone {
				clear(key)
			}
			clear(in)
			clear(gone)
			if l != want || !maps.Equal(standing(s), was) {
				t.Fatalf("seed %d: what was handed in was written over, and another thing stands", seed)
			}
			if e == api.OK {
				root = l
			}
		}
		agrees(t, s, root)
	}
}
