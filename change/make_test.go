package change

// Keys, maps, tries right and forged, and broken stores for the tests.

import (
	"crypto/sha256"
	"fmt"
	"maps"
	"slices"
	"strconv"
	"strings"
	"testing"

	"trellis/api"
	"trellis/sample"
	"trellis/store"
	"trellis/trie"
)

// table: the map of a trie.
type table map[string]api.Value

// small: the widths of the chapter's examples.
var small = api.Trie{Width: 2, Bucket: 1, Bytes: 1}

// manyWidths: the least and the greatest of each, levels that leave bits over, one level alone.
var manyWidths = []api.Trie{
	small, {Width: 1, Bucket: 1, Bytes: 1}, {Width: 3, Bucket: 2, Bytes: 2}, {Width: 5, Bucket: 1, Bytes: 2}, {Width: 7, Bucket: 3, Bytes: 1},
	{Width: 8, Bucket: 16, Bytes: 1}, {Width: 1, Bucket: 1, Bytes: 32}, {Width: 1, Bucket: 3, Bytes: 3}, {Width: 2, Bucket: 2, Bytes: 32},
	{Width: 4, Bucket: 16, Bytes: 2}, {Width: 8, Bucket: 1, Bytes: 32}, {Width: 3, Bucket: 1, Bytes: 1},
}

// way: the slices of a key, from the top on, out of a text of binary digits.
func way(c api.Trie, key string) []int {
	digits := ""
	for _, b := range sha256.Sum256([]byte(key)) {
		digits += fmt.Sprintf("%08b", b)
	}
	var list []int
	for digits = digits[:8*c.Bytes]; len(digits) >= c.Width; digits = digits[c.Width:] {
		n, _ := strconv.ParseInt(digits[:c.Width], 2, 64)
		list = append(list, int(n))
	}
	return list
}

// keyAt: the first key whose slices begin with these.
func keyAt(c api.Trie, path ...int) string { return keysAt(c, 1, path...)[0] }

// keysAt: the first so many keys whose slices begin with these.
func keysAt(c api.Trie, n int, path ...int) []string {
	var list []string
	for i := 0; len(list) < n; i++ {
		key := "k" + strconv.Itoa(i)
		if slices.Equal(way(c, key)[:len(path)], path) {
			list = append(list, key)
		}
	}
	return list
}

// keyPool: keys, many of which begin with one path.
func keyPool() []string {
	list := []string{"", "a", "b", "c", "\x00", "\xff\xfe", "ab", "aa", strings.Repeat("long", 1024)}
	for i := range 12 {
		list = append(list, "key"+strconv.Itoa(i))
	}
	eight := api.Trie{Width: 8, Bucket: 1, Bytes: 2}
	list = append(list, keysAt(eight, 8, 0)...)
	return append(list, keysAt(eight, 3, 7)...)
}

// takes: whether no more than Bucket keys of a map have all slices alike.
func takes(c api.Trie, m table) bool {
	count := map[string]int{}
	for key := range m {
		count[fmt.Sprint(way(c, key))]++
	}
	return !slices.ContainsFunc(slices.Collect(maps.Values(count)), func(n int) bool { return n > c.Bucket })
}

// anyMap: a map of keys out of a pool, that may be a trie's: another one with some changes.
func anyMap(d *sample.Dice, c api.Trie, pool []string, from table, most int) table {
	m := maps.Clone(from)
	if m == nil {
		m = table{}
	}
	for range d.Below(most + 1) {
		key := pool[d.Below(len(pool))]
		if d.Below(3) == 0 {
			delete(m, key)
			continue
		}
		old, is := m[key]
		m[key] = sorted(d.Tree(2))
		if !takes(c, m) {
			delete(m, key)
			if is {
				m[key] = old
			}
		}
	}
	return m
}

// sorted: a tree with its maps' entries in keys' order, its empty lists nil.
func sorted(v api.Value) api.Value {
	order := slices.Collect(func(yield func(int) bool) {
		for i := range v.Items {
			if !yield(i) {
				return
			}
		}
	})
	if v.Kind == api.KindMap {
		slices.SortFunc(order, func(i, j int) int {
			if a, b := v.Keys[i], v.Keys[j]; len(a) != len(b) {
				return len(a) - len(b)
			} else {
				return strings.Compare(a, b)
			}
		})
	}
	w := v
	w.Keys, w.Items, w.Bytes = nil, nil, append([]byte(nil), v.Bytes...)
	for _, i := range order {
		w.Items = append(w.Items, sorted(v.Items[i]))
		if v.Kind == api.KindMap {
			w.Keys = append(w.Keys, v.Keys[i])
		}
	}
	return w
}

// made: a store with room for so many blocks.
func made(t *testing.T, room int) *store.Store {
	t.Helper()
	s, e := store.New(room)
	if e != api.OK {
		t.Fatal(e)
	}
	return s
}

// laid: the root of a map, whose trie is laid into a store.
func laid(t *testing.T, s *store.Store, c api.Trie, m table) api.Link {
	t.Helper()
	root, e := trie.New(s, c)
	if e != api.OK {
		t.Fatal(e)
	}
	var in []api.Entry
	for key, v := range m {
		in = append(in, api.Entry{Key: []byte(key), Value: v})
	}
	if root, e = trie.Apply(s, root, nil, in); e != api.OK {
		t.Fatal(e)
	}
	return root
}

// letters: the map of a text: each key one letter, each value one digit.
func letters(text string) table {
	m := table{}
	for ; text != ""; text = text[2:] {
		m[text[:1]] = sample.Whole(uint64(text[1] - '0'))
	}
	return m
}

// row: changes, each a key of one letter, what it had, what it has; a dash for nothing.
func row(texts ...string) []api.Change {
	var l []api.Change
	for _, x := range texts {
		c := api.Change{Key: []byte(x[:1]), Had: x[1] != '-', Has: x[2] != '-'}
		if c.Had {
			c.Old = sample.Whole(uint64(x[1] - '0'))
		}
		if c.Has {
			c.New = sample.Whole(uint64(x[2] - '0'))
		}
		l = append(l, c)
	}
	return l
}

// standing: what stands in a store, right or not.
func standing(s *store.Store) map[api.Link]string {
	all := map[api.Link]string{}
	for _, l := range s.Links() {
		b, e := s.Get(l)
		all[l] = string(b)
		if e != api.OK {
			all[l] = fmt.Sprint("error ", e)
		}
	}
	return all
}

// moved: a store with room for so many blocks, in which the same ones stand, all of them right.
func moved(t *testing.T, s *store.Store, room int) *store.Store {
	t.Helper()
	other := made(t, room)
	for _, l := range s.Links() {
		b, e := s.Get(l)
		if _, f := other.Add(api.Block{Link: l, Bytes: b}); e != api.OK || f != api.OK {
			t.Fatal(e, f)
		}
	}
	return other
}

// broken: a copy of a store in which a block is lost, or other bytes stand in its place.
func broken(s *store.Store, l api.Link, e api.Errno) *store.Store {
	s = s.Copy()
	if e == api.ErrStoreNone {
		s.Delete(l)
	} else if f := s.Force(l, []byte{0x82, 0x41, 0, 0x80}); f != api.OK {
		panic(f)
	}
	return s
}

// damaged: a copy of a store in which some blocks are broken.
func damaged(d *sample.Dice, s *store.Store) *store.Store {
	for range d.Below(3) {
		links := s.Links()
		if len(links) > 0 {
			s = broken(s, links[d.Below(len(links))], []api.Errno{api.ErrStoreNone, api.ErrStoreBad}[d.Below(2)])
		}
	}
	return s
}

func octets(b string) api.Value { return api.Value{Kind: api.KindBytes, Bytes: []byte(b)} }

func linkOf(l api.Link) api.Value { return api.Value{Kind: api.KindLink, Link: l} }

// put lays the block of a tree into a store.
func put(s *store.Store, v api.Value) api.Link {
	b, is := formOf(v)
	if !is {
		panic("no tree")
	}
	l, e := s.Put(api.CodecTree, []byte(b))
	if e != api.OK {
		panic(e)
	}
	return l
}

// two: the bits and the elements of a node.
func two(c api.Trie, elements map[int]api.Value) []api.Value {
	bits, list := make([]byte, (1<<c.Width+7)/8), sample.List()
	for _, i := range slices.Sorted(maps.Keys(elements)) {
		bits[i/8] |= 1 << (i % 8)
		list.Items = append(list.Items, elements[i])
	}
	return []api.Value{octets(string(bits)), list}
}

// six: a root of bits and elements.
func six(c api.Trie, two []api.Value) api.Value {
	head := []api.Value{sample.Text("trie"), sample.Whole(uint64(c.Width)), sample.Whole(uint64(c.Bucket)), sample.Whole(uint64(c.Bytes))}
	return sample.List(append(head, two...)...)
}

// bucket: the tree of a bucket.
func bucket(m table) api.Value {
	v := sample.List()
	for _, key := range slices.Sorted(maps.Keys(m)) {
		v.Items = append(v.Items, sample.List(octets(key), m[key]))
	}
	return v
}

// forger lays tries of maps into a store that need not be as they should.
type forger struct {
	store  *store.Store
	widths api.Trie
	// loose tells whether a bucket at the end of a path stands in a node of its own; bent makes of a node another one.
	loose func(path []int) bool
	bent  func(path []int, two []api.Value) []api.Value
}

// root lays the trie of a map.
func (f forger) root(m table) api.Link {
	return put(f.store, six(f.widths, f.node(nil, m)))
}

// node tells the bits and the elements of the node of keys to which a path leads, and lays those below it.
func (f forger) node(path []int, m table) []api.Value {
	parts, elements := map[int]table{}, map[int]api.Value{}
	for key, v := range m {
		i := way(f.widths, key)[len(path)]
		if parts[i] == nil {
			parts[i] = table{}
		}
		parts[i][key] = v
	}
	for i, part := range parts {
		here := slices.Concat(path, []int{i})
		elements[i] = bucket(part)
		if len(part) > f.widths.Bucket || len(here) < 8*f.widths.Bytes/f.widths.Width && f.loose(here) {
			elements[i] = linkOf(put(f.store, sample.List(f.node(here, part)...)))
		}
	}
	return f.bent(path, two(f.widths, elements))
}

// anyForger: one that forges by chance, but the same in the same place: so what two of its tries have in common stands in both.
func anyForger(d *sample.Dice, s *store.Store, c api.Trie) forger {
	chance, rare, salt := 1+d.Below(5), 8+d.Below(40), d.Next()
	at := func(path []int) sample.Dice {
		sum := sha256.Sum256([]byte(fmt.Sprint(salt, path)))
		return sample.Dice(sum[0]) | sample.Dice(sum[1])<<8
	}
	return forger{
		store: s, widths: c,
		loose: func(path []int) bool {
			own := at(path)
			return own.Below(chance+len(path)) == 0
		},
		bent: func(path []int, two []api.Value) []api.Value {
			own := at(append(slices.Clone(path), -1))
			if own.Below(rare) > 0 {
				return two
			}
			return bentNode(&own, two)
		},
	}
}

// bentNode: bits and elements again, something in them made another thing: most often the node is not right then.
func bentNode(d *sample.Dice, two []api.Value) []api.Value {
	two = sample.Again(sample.List(two...)).Items
	bits, elements := two[0].Bytes, two[1].Items
	lost := api.Link{Version: 1, Codec: api.CodecTree, Hash: api.HashSha, Digest: strings.Repeat("l", 32)}
	raw := lost
	raw.Codec = api.CodecRaw
	switch d.Below(6) {
	case 0:
		bits[d.Below(len(bits))] ^= 1 << d.Below(8)
	case 1:
		two = append(two, sample.Null())
	case 2:
		two[0] = sample.Null()
	default:
		if len(elements) > 0 {
			others := []api.Value{linkOf(lost), linkOf(raw), sample.List(), sample.Null(), bucket(table{"x": sample.Null()}), linkOf(lost)}
			elements[d.Below(len(elements))] = others[d.Below(len(others))]
		}
	}
	return two
}

// again: changes in memory of their own.
func again(l []api.Change) []api.Change {
	var m []api.Change
	for _, c := range l {
		c.Key, c.Old, c.New = append([]byte{}, c.Key...), sample.Again(c.Old), sample.Again(c.New)
		m = append(m, c)
	}
	return m
}

// values: the memory of changes as values, whose lists can be held apart.
func values(l []api.Change) []api.Value {
	var all []api.Value
	for _, c := range l {
		all = append(all, api.Value{Bytes: c.Key}, c.Old, c.New)
	}
	return all
}
