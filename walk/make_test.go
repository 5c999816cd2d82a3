package walk

// Links of all sorts, steps, stores right and broken for the tests.

import (
	"crypto/sha256"
	"fmt"
	"strconv"
	"strings"
	"testing"

	"trellis/api"
	"trellis/lay"
	"trellis/sample"
	"trellis/store"
	"trellis/trie"
)

func follow() api.Step { return api.Step{Kind: api.StepFollow} }

func atKey(text string) api.Step { return api.Step{Kind: api.StepKey, Text: text} }

func atPlace(n int) api.Step { return api.Step{Kind: api.StepPlace, N: n} }

func atEntry(key string) api.Step { return api.Step{Kind: api.StepEntry, Key: []byte(key)} }

func octets(b string) api.Value { return api.Value{Kind: api.KindBytes, Bytes: []byte(b)} }

func linkOf(l api.Link) api.Value { return api.Value{Kind: api.KindLink, Link: l} }

// linkIn: the link of version 1 of a block.
func linkIn(codec uint64, b string) api.Link {
	sum := sha256.Sum256([]byte(b))
	return api.Link{Version: 1, Codec: codec, Hash: api.HashSha, Digest: string(sum[:])}
}

// oldLink: the link of version 0 of a block.
func oldLink(b string) api.Link {
	l := linkIn(api.CodecOld, b)
	l.Version = 0
	return l
}

// inline: the link of the bytes themselves.
func inline(codec uint64, b string) api.Link {
	return api.Link{Version: 1, Codec: codec, Hash: api.HashNone, Digest: b}
}

// noLinks: links that may not be, each nearly one that may.
func noLinks() []api.Link {
	good, old := linkIn(api.CodecTree, "a"), oldLink("a")
	list := []api.Link{{}, good, good, good, good, good, good, old, old, old, inline(api.CodecTree, strings.Repeat("x", api.MaxInline+1)), inline(1<<63, "")}
	list[1].Version = 2
	list[2].Version = -1
	list[3].Codec = 1 << 63
	list[4].Hash = 0x13
	list[5].Digest = good.Digest[1:]
	list[6].Digest += "x"
	list[7].Codec = api.CodecTree
	list[8].Hash = api.HashNone
	list[9].Digest = ""
	return list
}

// formOf: the form of a tree.
func formOf(v api.Value) string {
	b, e := lay.Encode(v)
	if e != api.OK {
		panic(e)
	}
	return string(b)
}

// made: a store with room for so many blocks.
func made(t *testing.T, room int) *store.Store {
	t.Helper()
	s, e := store.New(room)
	if e != api.OK {
		t.Fatal(e)
	}
	return s
}

// add lays a block under a link that holds it; the link.
func add(s *store.Store, l api.Link, b string) api.Link {
	if _, e := s.Add(api.Block{Link: l, Bytes: []byte(b)}); e != api.OK {
		panic(e)
	}
	return l
}

// put lays the block of a tree into a store.
func put(s *store.Store, v api.Value) api.Link {
	b := formOf(v)
	return add(s, linkIn(api.CodecTree, b), b)
}

// laid: the root of a trie of these keys and values, which is laid into a store; no other block is.
func laid(t *testing.T, s *store.Store, c api.Trie, m map[string]api.Value) api.Link {
	t.Helper()
	on := made(t, api.MaxBlocks)
	root, e := trie.New(on, c)
	if e != api.OK {
		t.Fatal(e)
	}
	empty := root
	var in []api.Entry
	for key, v := range m {
		in = append(in, api.Entry{Key: []byte(key), Value: v})
	}
	if root, e = trie.Apply(on, root, nil, in); e != api.OK {
		t.Fatal(e)
	}
	for _, l := range on.Links() {
		if b, _ := on.Get(l); l != empty || l == root {
			add(s, l, string(b))
		}
	}
	return root
}

// world: the store of the chapter's examples, and the links there: t, r, n, k.
func world(t *testing.T) (s *store.Store, tree, raw, none, key api.Link) {
	t.Helper()
	s = made(t, 100)
	raw = add(s, linkIn(api.CodecRaw, "\x01\x02"), "\x01\x02")
	none = linkIn(api.CodecTree, "nothing")
	tree = put(s, sample.Map("a b", sample.List(sample.Whole(1), linkOf(raw)), linkOf(none)))
	key = laid(t, s, api.Trie{Width: 2, Bucket: 1, Bytes: 1}, map[string]api.Value{"x": linkOf(tree)})
	return s, tree, raw, none, key
}

// standing: what stands in a store, right or not, and how much it is.
func standing(s *store.Store) string {
	text := fmt.Sprint(s.Len(), s.Size(), s.Room())
	for _, l := range s.Links() {
		b, e := s.Get(l)
		text += fmt.Sprintf(" %v:%x:%d", l, b, e)
	}
	return text
}

// broken: a copy of a store in which a block is lost, or other bytes stand in its place.
func broken(s *store.Store, l api.Link, e api.Errno) *store.Store {
	s = s.Copy()
	if e == api.ErrStoreNone {
		s.Delete(l)
	} else if f := s.Force(l, []byte{0x82, 0x41, 0, 0x80}); f != api.OK {
		panic(f)
	}
	return s
}

// withLinks: a tree again, some of its leaves links out of a pool, the later ones more often: so rows of blocks are long.
func withLinks(d *sample.Dice, v api.Value, pool []api.Link) api.Value {
	v = sample.Again(v)
	if len(v.Items) == 0 && d.Below(4) > 0 {
		return linkOf(pool[max(d.Below(len(pool)), d.Below(len(pool)))])
	}
	for i, x := range v.Items {
		v.Items[i] = withLinks(d, x, pool)
	}
	return v
}

// keyPool: keys of the tries that are made by chance.
func keyPool() []string {
	list := []string{"", "\x00", "\xff", "a", strings.Repeat("long", api.MaxKey/4)}
	for i := range 10 {
		list = append(list, "key"+strconv.Itoa(i))
	}
	return list
}

// anyTrie: the root of some trie, among whose values are links out of a pool.
func anyTrie(t *testing.T, d *sample.Dice, s *store.Store, pool []api.Link) api.Link {
	t.Helper()
	m, keys := map[string]api.Value{}, keyPool()
	for range d.Below(8) {
		m[keys[d.Below(len(keys))]] = withLinks(d, d.Tree(2), pool)
	}
	widths := []api.Trie{{Width: 1, Bucket: 1, Bytes: 32}, {Width: 3, Bucket: 2, Bytes: 8}, {Width: 8, Bucket: 16, Bytes: 1}}
	return laid(t, s, widths[d.Below(len(widths))], m)
}

// anyBlock lays some block, in which links out of a pool may be; its link.
func anyBlock(t *testing.T, d *sample.Dice, s *store.Store, pool []api.Link) api.Link {
	t.Helper()
	form := formOf(withLinks(d, d.Tree(3), pool))
	switch d.Below(18) {
	case 0:
		return add(s, linkIn(api.CodecRaw, form), form)
	case 1:
		return add(s, linkIn(7, form), form)
	case 2:
		return add(s, oldLink(form), form)
	case 3:
		return add(s, linkIn(api.CodecOld, form), form)
	case 4:
		form += "\x00"
		return add(s, linkIn(api.CodecTree, form), form)
	case 5:
		form = form[:d.Below(len(form))]
		return add(s, linkIn(api.CodecTree, form), form)
	case 6:
		return anyTrie(t, d, s, pool)
	case 7:
		form = formOf(sample.List(linkOf(pool[d.Below(len(pool))])))
		fallthrough
	case 8:
		return inline(api.CodecTree, form[:min(len(form), api.MaxInline)])
	}
	return add(s, linkIn(api.CodecTree, form), form)
}

// anyWorld: some store, broken here and there, and a pool of links: of blocks that are there, of lost ones, of none.
func anyWorld(t *testing.T, d *sample.Dice) (*store.Store, []api.Link) {
	t.Helper()
	s := made(t, 5000)
	pool := []api.Link{linkIn(api.CodecTree, "lost"), linkIn(api.CodecRaw, "lost"), linkIn(7, "lost"), oldLink("lost"), inline(api.CodecRaw, "x"), inline(7, "x"), inline(api.CodecTree, "\xff")}
	for range 1 + d.Below(30) {
		pool = append(pool, anyBlock(t, d, s, pool))
	}
	for range d.Below(4) {
		if l := s.Links(); len(l) > 0 {
			s = broken(s, l[d.Below(len(l))], []api.Errno{api.ErrStoreNone, api.ErrStoreBad}[d.Below(2)])
		}
	}
	return s, pool
}

// anyRoots: some links out of a pool, one maybe twice.
func anyRoots(d *sample.Dice, pool []api.Link) []api.Link {
	var list []api.Link
	for range d.Below(4) {
		list = append(list, pool[d.Below(len(pool))])
	}
	return list
}

// anyStep: some step, most often one that leads on from a place.
func anyStep(d *sample.Dice, at api.Value) api.Step {
	keys := append(keyPool(), strings.Repeat("x", api.MaxKey+1))
	chance := d.Below(24)
	switch {
	case chance == 0:
		return api.Step{Kind: d.Below(7) - 1, Text: []string{"", "a"}[d.Below(2)], N: d.Below(3) - 1, Key: [][]byte{nil, {}, {1}}[d.Below(3)]}
	case chance == 1:
		return []api.Step{follow(), atKey("a"), atPlace(0), atEntry("a"), atKey(""), atPlace(-1), atEntry("")}[d.Below(7)]
	case at.Kind == api.KindMap && len(at.Keys) > 0:
		return atKey(at.Keys[d.Below(len(at.Keys))])
	case at.Kind == api.KindList:
		return atPlace(d.Below(len(at.Items) + 1))
	case at.Kind == api.KindLink && chance < 8:
		return atEntry(keys[d.Below(len(keys))])
	}
	return follow()
}

// anyPath: some path of at most so many steps from a link on; some steps stand behind the one that is refused.
func anyPath(d *sample.Dice, s *store.Store, l api.Link, most int) []api.Step {
	at, wrong := linkOf(l), 0
	var path []api.Step
	for len(path) < most && wrong < 2 && d.Below(12) > 0 {
		x := anyStep(d, at)
		path = append(path, x)
		next, e := plainStep(s, at, x)
		if e != api.OK {
			wrong++
			continue
		}
		at = next
	}
	return path
}
