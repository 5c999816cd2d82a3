package trie

// The chapter read a second time, plainly: a path is a text of binary digits, a node a map by slices, a bucket a map by keys; the trie of a map is made by the definition, from nothing. Digests are the library's.

import (
	"bytes"
	"crypto/sha256"
	"fmt"
	"maps"
	"slices"
	"strconv"

	"trellis/api"
	"trellis/lay"
	"trellis/read"
	"trellis/sample"
	"trellis/store"
	"trellis/value"
)

// table: the map of a trie.
type table map[string]api.Value

// knot: a node; spot: what it has for a slice.
type knot map[int]spot

type spot struct {
	link   api.Link
	node   knot  // in the place of its link
	bucket table // of a link's none
}

func depthOf(c api.Trie) int { return 8 * c.Bytes / c.Width }

// ways: the slices of keys that have been asked for.
var ways = map[widthsKey][]int{}

type widthsKey struct {
	widths api.Trie
	key    string
}

// way: the slices of a key, from the top on.
func way(c api.Trie, key string) []int {
	if list, is := ways[widthsKey{c, key}]; is {
		return list
	}
	digits := ""
	for _, b := range sha256.Sum256([]byte(key)) {
		digits += fmt.Sprintf("%08b", b)
	}
	var list []int
	for digits = digits[:8*c.Bytes]; len(digits) >= c.Width; digits = digits[c.Width:] {
		n, _ := strconv.ParseInt(digits[:c.Width], 2, 64)
		list = append(list, int(n))
	}
	ways[widthsKey{c, key}] = list
	return list
}

// mayBeMap: whether no more than Bucket keys have all slices alike.
func mayBeMap(c api.Trie, m table) bool {
	count := map[string]int{}
	for key := range m {
		count[fmt.Sprint(way(c, key))]++
	}
	for _, n := range count {
		if n > c.Bucket {
			return false
		}
	}
	return true
}

// knotOf: the node of keys at a level, by the definition; m may be a trie's.
func knotOf(c api.Trie, m table, level int) knot {
	n, parts := knot{}, map[int]table{}
	for key, v := range m {
		i := way(c, key)[level]
		if parts[i] == nil {
			parts[i] = table{}
		}
		parts[i][key] = v
	}
	for i, part := range parts {
		n[i] = spot{bucket: part}
		if len(part) > c.Bucket {
			n[i] = spot{node: knotOf(c, part, level+1)}
		}
	}
	return n
}

// treeLink: the link of a tree block.
func treeLink(b []byte) api.Link {
	sum := sha256.Sum256(b)
	return api.Link{Version: 1, Codec: api.CodecTree, Hash: api.HashSha, Digest: string(sum[:])}
}

// laidTree lays the block of a tree into blocks.
func laidTree(blocks map[api.Link]string, v api.Value) api.Link {
	b, e := lay.Encode(v)
	if e != api.OK {
		panic(e)
	}
	l := treeLink(b)
	blocks[l] = string(b)
	return l
}

func octets(b string) api.Value { return api.Value{Kind: api.KindBytes, Bytes: []byte(b)} }

// twoOf: the bits and the elements of a node; the blocks of the nodes in it are laid into blocks.
func twoOf(blocks map[api.Link]string, c api.Trie, n knot) []api.Value {
	bits, elements := make([]byte, (1<<c.Width+7)/8), sample.List()
	for _, i := range slices.Sorted(maps.Keys(n)) {
		bits[i/8] |= 1 << (i % 8)
		x := n[i]
		v := api.Value{Kind: api.KindLink, Link: x.link}
		if x.node != nil {
			v.Link = laidTree(blocks, sample.List(twoOf(blocks, c, x.node)...))
		}
		if x.bucket != nil {
			v = sample.List()
			for _, key := range slices.Sorted(maps.Keys(x.bucket)) {
				v.Items = append(v.Items, sample.List(octets(key), x.bucket[key]))
			}
		}
		elements.Items = append(elements.Items, v)
	}
	return []api.Value{octets(string(bits)), elements}
}

// sixOf: the root's tree.
func sixOf(c api.Trie, two []api.Value) api.Value {
	six := []api.Value{sample.Text("trie"), sample.Whole(uint64(c.Width)), sample.Whole(uint64(c.Bucket)), sample.Whole(uint64(c.Bytes))}
	return sample.List(append(six, two...)...)
}

// rootOf: the root's link of a top node, whose blocks are laid into blocks.
func rootOf(blocks map[api.Link]string, c api.Trie, n knot) api.Link {
	return laidTree(blocks, sixOf(c, twoOf(blocks, c, n)))
}

// trieOf: the root's link of a map, whose blocks are laid into blocks.
func trieOf(blocks map[api.Link]string, c api.Trie, m table) api.Link {
	return rootOf(blocks, c, knotOf(c, m, 0))
}

func fitsKey(key []byte) bool { return len(key) <= 4096 }

func fitsValue(v api.Value) bool {
	b, e := lay.Encode(v)
	return e == api.OK && len(b) <= 4096 && value.Depth(v) <= 512
}

// rightTwo: the node that bits and elements are, at the level behind the slices above; nil, if they are not right.
func rightTwo(c api.Trie, above []int, two []api.Value) knot {
	if len(two) != 2 || two[0].Kind != api.KindBytes || two[1].Kind != api.KindList {
		return nil
	}
	bits, elements, n := two[0].Bytes, two[1].Items, knot{}
	if c.Width >= 3 && len(bits) != 1<<c.Width/8 || c.Width < 3 && len(bits) != 1 {
		return nil
	}
	for i := range 8 * len(bits) {
		if bits[i/8]&(1<<(i%8)) == 0 {
			continue
		}
		if i >= 1<<c.Width || len(elements) == 0 {
			return nil
		}
		x, ok := rightSpot(c, slices.Concat(above, []int{i}), elements[0])
		if !ok {
			return nil
		}
		n[i], elements = x, elements[1:]
	}
	if len(elements) > 0 || len(n) == 0 && len(above) > 0 {
		return nil
	}
	return n
}

// rightSpot: an element of keys that begin with these slices, its own the last of them.
func rightSpot(c api.Trie, slices []int, v api.Value) (spot, bool) {
	if v.Kind == api.KindLink {
		l := v.Link
		return spot{link: l}, l.Version == 1 && l.Codec == 0x71 && l.Hash == 0x12 && len(slices) < depthOf(c)
	}
	if v.Kind != api.KindList || len(v.Items) == 0 || len(v.Items) > c.Bucket {
		return spot{}, false
	}
	bucket, last := table{}, ""
	for i, y := range v.Items {
		if y.Kind != api.KindList || len(y.Items) != 2 || y.Items[0].Kind != api.KindBytes {
			return spot{}, false
		}
		key := string(y.Items[0].Bytes)
		if !fitsKey([]byte(key)) || !fitsValue(y.Items[1]) || i > 0 && key <= last {
			return spot{}, false
		}
		if fmt.Sprint(way(c, key)[:len(slices)]) != fmt.Sprint(slices) {
			return spot{}, false
		}
		bucket[key], last = y.Items[1], key
	}
	return spot{bucket: bucket}, true
}

// readItems: the items of the list that a tree block is.
func readItems(s *store.Store, l api.Link) ([]api.Value, api.Errno) {
	b, e := s.Get(l)
	if e != api.OK {
		return nil, e
	}
	v, f := read.Decode(b, api.MaxDepth)
	if l.Version != 1 || l.Codec != 0x71 || l.Hash != 0x12 || f.Code != api.OK || v.Kind != api.KindList {
		return nil, api.ErrTrieNode
	}
	return v.Items, api.OK
}

// readTop: a root's widths and node.
func readTop(s *store.Store, l api.Link) (api.Trie, knot, api.Errno) {
	six, e := readItems(s, l)
	if e != api.OK {
		return api.Trie{}, nil, e
	}
	if len(six) != 6 || !value.Equal(six[0], sample.Text("trie")) {
		return api.Trie{}, nil, api.ErrTrieNode
	}
	var c api.Trie
	for _, w := range []struct {
		v    api.Value
		most uint64
		is   *int
	}{{six[1], 8, &c.Width}, {six[2], 16, &c.Bucket}, {six[3], 32, &c.Bytes}} {
		if w.v.Kind != api.KindInt || w.v.Neg || w.v.N == 0 || w.v.N > w.most {
			return api.Trie{}, nil, api.ErrTrieNode
		}
		*w.is = int(w.v.N)
	}
	n := rightTwo(c, nil, six[4:])
	if n == nil {
		return api.Trie{}, nil, api.ErrTrieNode
	}
	return c, n, api.OK
}

// readBelow: a node below the top.
func readBelow(s *store.Store, c api.Trie, above []int, l api.Link) (knot, api.Errno) {
	two, e := readItems(s, l)
	if e != api.OK {
		return nil, e
	}
	if n := rightTwo(c, above, two); n != nil {
		return n, api.OK
	}
	return nil, api.ErrTrieNode
}

// fetched reads the nodes on a key's way into their places; the entries at its end are told.
func fetched(s *store.Store, c api.Trie, n knot, key string) (table, api.Errno) {
	slices := way(c, key)
	for level := 0; ; level++ {
		x := n[slices[level]]
		if x.link == (api.Link{}) {
			return x.bucket, api.OK
		}
		if x.node == nil {
			below, e := readBelow(s, c, slices[:level+1], x.link)
			if e != api.OK {
				return nil, e
			}
			x.node = below
			n[slices[level]] = x
		}
		n = x.node
	}
}

func plainGet(s *store.Store, root api.Link, key []byte) (api.Value, bool, api.Errno) {
	if !fitsKey(key) {
		return api.Value{}, false, api.ErrTrieKey
	}
	c, top, e := readTop(s, root)
	if e != api.OK {
		return api.Value{}, false, e
	}
	bucket, e := fetched(s, c, top, string(key))
	v, has := bucket[string(key)]
	return v, has, e
}

// without: a node without a key, whose slices from its level on these are; whether the key was there.
func without(c api.Trie, n knot, slices []int, key string) bool {
	x, is := n[slices[0]]
	if _, has := x.bucket[key]; !is || x.node == nil && !has {
		return false
	}
	if x.node == nil {
		delete(x.bucket, key)
	} else {
		if !without(c, x.node, slices[1:], key) {
			return false
		}
		all, links := table{}, 0
		for _, y := range x.node {
			maps.Copy(all, y.bucket)
			if y.bucket == nil {
				links++
			}
		}
		if links == 0 && len(all) <= c.Bucket {
			x = spot{bucket: all}
		}
	}
	n[slices[0]] = x
	if x.node == nil && len(x.bucket) == 0 {
		delete(n, slices[0])
	}
	return true
}

// with lays an entry into a node at a level.
func with(c api.Trie, n knot, level int, key string, v api.Value) api.Errno {
	i := way(c, key)[level]
	x := n[i]
	if x.node != nil {
		return with(c, x.node, level+1, key, v)
	}
	bucket := table{key: v}
	for k, w := range x.bucket {
		if k != key {
			bucket[k] = w
		}
	}
	switch {
	case len(bucket) <= c.Bucket:
		n[i] = spot{bucket: bucket}
	case !mayBeMap(c, bucket):
		return api.ErrTrieDepth
	default:
		n[i] = spot{node: knotOf(c, bucket, level+1)}
	}
	return api.OK
}

// plainApply tells the answer of P14.12, how many keys of gone were there, and the blocks of the tree that is added.
func plainApply(s *store.Store, root api.Link, gone [][]byte, l []api.Entry) (api.Link, int, map[api.Link]string, api.Errno) {
	all := slices.Clone(gone)
	for _, y := range l {
		all = append(all, y.Key)
	}
	for _, key := range all {
		if !fitsKey(key) {
			return api.Link{}, 0, nil, api.ErrTrieKey
		}
	}
	for _, y := range l {
		if !fitsValue(y.Value) {
			return api.Link{}, 0, nil, api.ErrTrieValue
		}
	}
	c, top, e := readTop(s, root)
	if e != api.OK {
		return api.Link{}, 0, nil, e
	}
	for _, key := range all {
		if _, e := fetched(s, c, top, string(key)); e != api.OK {
			return api.Link{}, 0, nil, e
		}
	}
	taken := 0
	for _, key := range gone {
		if without(c, top, way(c, string(key)), string(key)) {
			taken++
		}
	}
	for _, y := range l {
		if e := with(c, top, 0, string(y.Key), y.Value); e != api.OK {
			return api.Link{}, 0, nil, e
		}
	}
	blocks := map[api.Link]string{}
	return rootOf(blocks, c, top), taken, blocks, api.OK
}

// pair: of what All tells.
type pair struct {
	key   string
	value api.Value
	e     api.Errno
}

// plainAll: what All tells; how many entries there are, or Check's error.
func plainAll(s *store.Store, root api.Link) ([]pair, int, api.Errno) {
	c, top, e := readTop(s, root)
	if e != api.OK {
		return []pair{{e: e}}, 0, e
	}
	var told []pair
	check := api.OK
	var through func(n knot, above []int) bool
	through = func(n knot, above []int) bool {
		begun := len(told)
		for _, i := range slices.Sorted(maps.Keys(n)) {
			for _, key := range slices.Sorted(maps.Keys(n[i].bucket)) {
				told = append(told, pair{key: key, value: n[i].bucket[key]})
			}
			if n[i].bucket != nil {
				continue
			}
			deeper := slices.Concat(above, []int{i})
			below, e := readBelow(s, c, deeper, n[i].link)
			if e != api.OK {
				told = append(told, pair{e: e})
				if check == api.OK {
					check = e
				}
				return false
			}
			if !through(below, deeper) {
				return false
			}
		}
		if check == api.OK && len(above) > 0 && len(told)-begun <= c.Bucket {
			check = api.ErrTrieForm
		}
		return true
	}
	through(top, nil)
	if check != api.OK {
		return told, 0, check
	}
	return told, len(told), api.OK
}

// sameValue: whether two values are the same, field by field, nil and empty lists being one.
func sameValue(a, b api.Value) bool {
	return fmt.Sprintf("%+v", sample.Again(a)) == fmt.Sprintf("%+v", sample.Again(b))
}

// standing: what stands in a store, right or not.
func standing(s *store.Store) map[api.Link]string {
	all := map[api.Link]string{}
	for _, l := range s.Links() {
		b, e := s.Get(l)
		all[l] = string(b)
		if e != api.OK {
			all[l] = fmt.Sprint("error ", e)
		}
	}
	return all
}

// samePairs: whether two rows of pairs are the same.
func samePairs(a, b []pair) bool {
	return slices.EqualFunc(a, b, func(x, y pair) bool {
		return x.key == y.key && x.e == y.e && sameValue(x.value, y.value)
	})
}

func byteKeys(keys ...string) [][]byte {
	var list [][]byte
	for _, key := range keys {
		list = append(list, []byte(key))
	}
	return list
}

// laidAll lays blocks into a store, whatever stands there.
func laidAll(s *store.Store, blocks map[api.Link]string) {
	for l, b := range blocks {
		if e := s.Force(l, bytes.Clone([]byte(b))); e != api.OK {
			panic(e)
		}
	}
}
