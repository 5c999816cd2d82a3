package proof

// Keys, maps, tries right and forged, broken stores and rows of blocks for the tests.

import (
	"crypto/sha256"
	"fmt"
	"maps"
	"slices"
	"strconv"
	"strings"
	"testing"

	"trellis/api"
	"trellis/lay"
	"trellis/sample"
	"trellis/store"
	"trellis/trie"
)

// table: the map of a trie.
type table map[string]api.Value

// small: the widths of the chapter's examples.
var small = api.Trie{Width: 2, Bucket: 1, Bytes: 1}

// manyWidths: the least and the greatest of each, levels that leave bits over, one level alone.
var manyWidths = []api.Trie{
	small, {Width: 1, Bucket: 1, Bytes: 1}, {Width: 3, Bucket: 2, Bytes: 2}, {Width: 5, Bucket: 1, Bytes: 2}, {Width: 7, Bucket: 3, Bytes: 1},
	{Width: 8, Bucket: 16, Bytes: 1}, {Width: 1, Bucket: 1, Bytes: 32}, {Width: 1, Bucket: 3, Bytes: 3}, {Width: 2, Bucket: 2, Bytes: 32},
	{Width: 4, Bucket: 16, Bytes: 2}, {Width: 8, Bucket: 1, Bytes: 32}, {Width: 3, Bucket: 1, Bytes: 1}, {Width: 6, Bucket: 1, Bytes: 3},
}

// slicesOf: the slices of a key, from the top on, out of a text of binary digits.
func slicesOf(c api.Trie, key string) []int {
	digits := ""
	for _, b := range sha256.Sum256([]byte(key)) {
		digits += fmt.Sprintf("%08b", b)
	}
	var list []int
	for digits = digits[:8*c.Bytes]; len(digits) >= c.Width; digits = digits[c.Width:] {
		n, _ := strconv.ParseInt(digits[:c.Width], 2, 64)
		list = append(list, int(n))
	}
	return list
}

// keyAt: the first key whose slices begin with these.
func keyAt(c api.Trie, path ...int) string { return keysAt(c, 1, path...)[0] }

// keysAt: the first so many keys whose slices begin with these.
func keysAt(c api.Trie, n int, path ...int) []string {
	var list []string
	for i := 0; len(list) < n; i++ {
		key := "k" + strconv.Itoa(i)
		if slices.Equal(slicesOf(c, key)[:len(path)], path) {
			list = append(list, key)
		}
	}
	return list
}

// longest: a key of the greatest length.
func longest() string { return strings.Repeat("long", api.MaxKey/4) }

// keyPool: keys, many of which begin with one path.
func keyPool() []string {
	list := []string{"", "a", "b", "c", "\x00", "\xff\xfe", "ab", "aa", longest()}
	for i := range 12 {
		list = append(list, "key"+strconv.Itoa(i))
	}
	eight := api.Trie{Width: 8, Bucket: 1, Bytes: 2}
	list = append(list, keysAt(eight, 8, 0)...)
	return append(list, keysAt(eight, 3, 7)...)
}

// takes: whether no more than Bucket keys of a map have all slices alike.
func takes(c api.Trie, m table) bool {
	count := map[string]int{}
	for key := range m {
		count[fmt.Sprint(slicesOf(c, key))]++
	}
	return !slices.ContainsFunc(slices.Collect(maps.Values(count)), func(n int) bool { return n > c.Bucket })
}

// anyMap: a map of at most so many keys out of a pool, that may be a trie's.
func anyMap(d *sample.Dice, c api.Trie, pool []string, most int) table {
	m := table{}
	for range d.Below(most + 1) {
		key := pool[d.Below(len(pool))]
		if _, is := m[key]; is {
			continue
		}
		m[key] = sorted(d.Tree(2))
		if !takes(c, m) {
			delete(m, key)
		}
	}
	return m
}

// sorted: a tree with its maps' entries in keys' order, its empty lists nil.
func sorted(v api.Value) api.Value {
	order := make([]int, len(v.Items))
	for i := range order {
		order[i] = i
	}
	if v.Kind == api.KindMap {
		slices.SortFunc(order, func(i, j int) int {
			if a, b := v.Keys[i], v.Keys[j]; len(a) != len(b) {
				return len(a) - len(b)
			} else {
				return strings.Compare(a, b)
			}
		})
	}
	w := v
	w.Keys, w.Items, w.Bytes = nil, nil, append([]byte(nil), v.Bytes...)
	for _, i := range order {
		w.Items = append(w.Items, sorted(v.Items[i]))
		if v.Kind == api.KindMap {
			w.Keys = append(w.Keys, v.Keys[i])
		}
	}
	return w
}

// letters: the map of a text: each key one letter, each value one digit.
func letters(text string) table {
	m := table{}
	for ; text != ""; text = text[2:] {
		m[text[:1]] = sample.Whole(uint64(text[1] - '0'))
	}
	return m
}

// made: a store with room for so many blocks.
func made(t *testing.T, room int) *store.Store {
	t.Helper()
	s, e := store.New(room)
	if e != api.OK {
		t.Fatal(e)
	}
	return s
}

// laid: the root of a map, whose trie is laid into a store.
func laid(t *testing.T, s *store.Store, c api.Trie, m table) api.Link {
	t.Helper()
	root, e := trie.New(s, c)
	if e != api.OK {
		t.Fatal(e)
	}
	var in []api.Entry
	for key, v := range m {
		in = append(in, api.Entry{Key: []byte(key), Value: v})
	}
	if root, e = trie.Apply(s, root, nil, in); e != api.OK {
		t.Fatal(e)
	}
	return root
}

// example: the trie of chapter 14's example 2: a is 3, b 1, c 2.
func example(t *testing.T) (*store.Store, api.Link) {
	t.Helper()
	s := made(t, 100)
	return s, laid(t, s, small, letters("a3b1c2"))
}

// standing: what stands in a store, right or not.
func standing(s *store.Store) map[api.Link]string {
	all := map[api.Link]string{}
	for _, l := range s.Links() {
		b, e := s.Get(l)
		all[l] = string(b)
		if e != api.OK {
			all[l] = fmt.Sprint("error ", e)
		}
	}
	return all
}

// broken: a copy of a store in which a block is lost, or other bytes stand in its place.
func broken(s *store.Store, l api.Link, e api.Errno) *store.Store {
	s = s.Copy()
	if e == api.ErrStoreNone {
		s.Delete(l)
	} else if f := s.Force(l, []byte{0x82, 0x41, 0, 0x80}); f != api.OK {
		panic(f)
	}
	return s
}

// damaged: a copy of a store in which some blocks are broken.
func damaged(d *sample.Dice, s *store.Store) *store.Store {
	for range d.Below(3) {
		links := s.Links()
		if len(links) > 0 {
			s = broken(s, links[d.Below(len(links))], []api.Errno{api.ErrStoreNone, api.ErrStoreBad}[d.Below(2)])
		}
	}
	return s
}

func octets(b string) api.Value { return api.Value{Kind: api.KindBytes, Bytes: []byte(b)} }

func linkOf(l api.Link) api.Value { return api.Value{Kind: api.KindLink, Link: l} }

// treeLink: the link of a tree block.
func treeLink(b []byte) api.Link {
	sum := sha256.Sum256(b)
	return api.Link{Version: 1, Codec: api.CodecTree, Hash: api.HashSha, Digest: string(sum[:])}
}

// formOf: the form of a tree.
func formOf(v api.Value) []byte {
	b, e := lay.Encode(v)
	if e != api.OK {
		panic(e)
	}
	return b
}

// put lays the block of a tree into a store.
func put(s *store.Store, v api.Value) api.Link {
	l, e := s.Put(api.CodecTree, formOf(v))
	if e != api.OK {
		panic(e)
	}
	return l
}

// two: the bits and the elements of a node.
func two(c api.Trie, elements map[int]api.Value) []api.Value {
	bits, list := make([]byte, (1<<c.Width+7)/8), sample.List()
	for _, i := range slices.Sorted(maps.Keys(elements)) {
		bits[i/8] |= 1 << (i % 8)
		list.Items = append(list.Items, elements[i])
	}
	return []api.Value{octets(string(bits)), list}
}

// six: a root of bits and elements.
func six(c api.Trie, two []api.Value) api.Value {
	head := []api.Value{sample.Text("trie"), sample.Whole(uint64(c.Width)), sample.Whole(uint64(c.Bucket)), sample.Whole(uint64(c.Bytes))}
	return sample.List(append(head, two...)...)
}

// bucket: the tree of a bucket.
func bucket(m table) api.Value {
	v := sample.List()
	for _, key := range slices.Sorted(maps.Keys(m)) {
		v.Items = append(v.Items, sample.List(octets(key), m[key]))
	}
	return v
}

// forger lays tries of maps into a store that need not be as they should.
type forger struct {
	store  *store.Store
	widths api.Trie
	// loose tells whether a bucket at the end of a path stands in a node of its own; bent makes of a node another one.
	loose func(path []int) bool
	bent  func(path []int, two []api.Value) []api.Value
}

// asIs bends nothing.
func asIs(_ []int, two []api.Value) []api.Value { return two }

// root lays the trie of a map.
func (f forger) root(m table) api.Link {
	return put(f.store, six(f.widths, f.node(nil, m)))
}

// node tells the bits and the elements of the node of keys to which a path leads, and lays those below it.
func (f forger) node(path []int, m table) []api.Value {
	parts, elements := map[int]table{}, map[int]api.Value{}
	for key, v := range m {
		i := slicesOf(f.widths, key)[len(path)]
		if parts[i] == nil {
			parts[i] = table{}
		}
		parts[i][key] = v
	}
	for i, part := range parts {
		here := slices.Concat(path, []int{i})
		elements[i] = bucket(part)
		if len(part) > f.widths.Bucket || len(here) < 8*f.widths.Bytes/f.widths.Width && f.loose(here) {
			elements[i] = linkOf(put(f.store, sample.List(f.node(here, part)...)))
		}
	}
	return f.bent(path, two(f.widths, elements))
}

// anyForger: one that forges by chance.
func anyForger(d *sample.Dice, s *store.Store, c api.Trie) forger {
	chance, rare := 1+d.Below(5), 8+d.Below(40)
	return forger{
		store: s, widths: c,
		loose: func(path []int) bool { return d.Below(chance+len(path)) == 0 },
		bent: func(path []int, two []api.Value) []api.Value {
			if d.Below(rare) > 0 {
				return two
			}
			return bentNode(d, two)
		},
	}
}

// bentNode: bits and elements again, something in them made another thing: most often the node is not right then.
func bentNode(d *sample.Dice, two []api.Value) []api.Value {
	two = sample.Again(sample.List(two...)).Items
	bits, elements := two[0].Bytes, two[1].Items
	lost := api.Link{Version: 1, Codec: api.CodecTree, Hash: api.HashSha, Digest: strings.Repeat("l", 32)}
	raw := lost
	raw.Codec = api.CodecRaw
	switch d.Below(6) {
	case 0:
		bits[d.Below(len(bits))] ^= 1 << d.Below(8)
	case 1:
		two = append(two, sample.Null())
	case 2:
		two[0] = sample.Null()
	default:
		if len(elements) > 0 {
			others := []api.Value{linkOf(lost), linkOf(raw), sample.List(), sample.Null(), bucket(table{"x": sample.Null()}), linkOf(lost)}
			elements[d.Below(len(elements))] = others[d.Below(len(others))]
		}
	}
	return two
}

// rowOf: a row of blocks in memory of its own.
func rowOf(blocks ...[]byte) [][]byte {
	row := [][]byte{}
	for _, b := range blocks {
		row = append(row, slices.Clone(b))
	}
	return row
}

// relinked: a row in which one block is another one, and each block ahead of it has the new digest in the place of the old one; the new root.
func relinked(row [][]byte, at int, b []byte) (api.Link, [][]byte) {
	row = rowOf(row...)
	old := treeLink(row[at]).Digest
	row[at] = slices.Clone(b)
	for i := at - 1; i >= 0; i-- {
		was, now := treeLink(row[i]).Digest, treeLink(row[i+1]).Digest
		row[i] = []byte(strings.ReplaceAll(string(row[i]), old, now))
		old = was
	}
	return treeLink(row[0]), row
}

// bentBytes: a block again, something in its bytes made another thing.
func bentBytes(d *sample.Dice, b []byte) []byte {
	b = slices.Clone(b)
	at := d.Below(len(b) + 1)
	switch d.Below(5) {
	case 0:
		return b[:at]
	case 1:
		return slices.Insert(b, at, byte(d.Next()))
	case 2:
		return append(b, b...)
	}
	if at < len(b) {
		b[at] ^= 1 << d.Below(8)
	}
	return b
}

// wrongRow: a row beside a right one, what was done to it, and what Verify says of it.
type wrongRow struct {
	what string
	row  [][]byte
	e    api.Errno
}

// wrongRows: another order, one twice, one left out, one more, each made another one. No block stands twice in the right row.
func wrongRows(d *sample.Dice, row [][]byte) []wrongRow {
	all := []wrongRow{
		{"none", nil, api.ErrProofShort}, {"no list of none", [][]byte{}, api.ErrProofShort},
		{"an empty one more", append(rowOf(row...), nil), api.ErrProofLeft}, {"an empty one ahead", slices.Insert(rowOf(row...), 0, nil), api.ErrProofBad},
	}
	for i, b := range row {
		add := func(what string, other [][]byte, e api.Errno) {
			all = append(all, wrongRow{fmt.Sprint(i, " ", what), other, e})
		}
		twice, without := api.ErrProofBad, api.ErrProofBad
		if i == len(row)-1 {
			twice, without = api.ErrProofLeft, api.ErrProofShort
		}
		add("twice", slices.Insert(rowOf(row...), i, b), twice)
		add("left out", slices.Delete(rowOf(row...), i, i+1), without)
		add("and on left out", rowOf(row[:i]...), api.ErrProofShort)
		add("once more behind", append(rowOf(row...), b), api.ErrProofLeft)
		for j := range i {
			swapped := rowOf(row...)
			swapped[i], swapped[j] = swapped[j], swapped[i]
			add(fmt.Sprint("and ", j, " swapped"), swapped, api.ErrProofBad)
		}
		with := func(other []byte) [][]byte {
			bent := rowOf(row...)
			bent[i] = other
			return bent
		}
		turned := slices.Clone(b)
		turned[d.Below(len(b))] ^= 1 << d.Below(8)
		add("with a bit turned", with(turned), api.ErrProofBad)
		add("empty", with(nil), api.ErrProofBad)
		add("cut", with(b[:d.Below(len(b))]), api.ErrProofBad)
		add("longer", with(append(slices.Clone(b), byte(d.Next()))), api.ErrProofBad)
	}
	return all
}
