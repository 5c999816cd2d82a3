package pull

// Links of all sorts and stores, right and broken, for the tests.

import (
	"fmt"
	"slices"
	"strconv"
	"strings"
	"testing"

	"trellis/api"
	"trellis/lay"
	"trellis/link"
	"trellis/sample"
	"trellis/store"
	"trellis/trie"
)

func links(l ...api.Link) []api.Link { return l }

func named(l api.Link) api.Value { return api.Value{Kind: api.KindLink, Link: l} }

// naming: the list of some links, and of others behind them.
func naming(some []api.Link, others ...api.Link) api.Value {
	v := sample.List()
	for _, l := range slices.Concat(some, others) {
		v.Items = append(v.Items, named(l))
	}
	return v
}

// under: the link of version 1 that a codec and bytes have.
func under(codec uint64, b string) api.Link {
	l, e := link.Of(codec, []byte(b))
	if e != api.OK {
		panic(e)
	}
	return l
}

// old: the link of version 0 of bytes.
func old(b string) api.Link {
	l := under(api.CodecOld, b)
	l.Version = 0
	return l
}

// itself: the link of the bytes themselves.
func itself(codec uint64, b string) api.Link {
	return api.Link{Version: 1, Codec: codec, Hash: api.HashNone, Digest: b}
}

// wrongLinks: links that may not be.
func wrongLinks() []api.Link {
	short, late := under(api.CodecRaw, "a"), under(api.CodecTree, "\xf6")
	short.Digest = short.Digest[1:]
	late.Version = 2
	return links(api.Link{}, short, late, itself(1<<63, ""), itself(api.CodecRaw, strings.Repeat("x", api.MaxInline+1)))
}

// form: the form of a tree.
func form(v api.Value) string {
	b, e := lay.Encode(v)
	if e != api.OK {
		panic(e)
	}
	return string(b)
}

// made: an empty store.
func made(t *testing.T, room int) *store.Store {
	t.Helper()
	s, e := store.New(room)
	if e != api.OK {
		t.Fatal(e)
	}
	return s
}

// stand lays bytes under a link that holds them; the link.
func stand(s *store.Store, l api.Link, b string) api.Link {
	if _, e := s.Add(api.Block{Link: l, Bytes: []byte(b)}); e != api.OK {
		panic(e)
	}
	return l
}

// raw, tree lay a block of that codec.
func raw(s *store.Store, b string) api.Link { return stand(s, under(api.CodecRaw, b), b) }

func tree(s *store.Store, v api.Value) api.Link {
	return stand(s, under(api.CodecTree, form(v)), form(v))
}

// force lays other bytes than a link's under it.
func force(s *store.Store, l api.Link) {
	if e := s.Force(l, []byte("forced")); e != api.OK {
		panic(e)
	}
}

// world: the store of the examples of walk's chapter, and the links there: r, n, t, k.
func world(t *testing.T) (s *store.Store, r, n, top, key api.Link) {
	t.Helper()
	s = made(t, 100)
	r, n = raw(s, "\x01\x02"), under(api.CodecTree, "\xf6")
	top = tree(s, sample.Map("a b", sample.List(sample.Whole(1), named(r)), named(n)))
	empty, e := trie.New(s, api.Trie{Width: 2, Bucket: 1, Bytes: 1})
	if e != api.OK {
		t.Fatal(e)
	}
	if key, e = trie.Set(s, empty, []byte("x"), named(top)); e != api.OK {
		t.Fatal(e)
	}
	return s, r, n, top, key
}

// family: a store in which nothing is lacking, and its links: of a raw block, one of version 0, a tree of both, and one of that tree; the last reaches all.
func family(t *testing.T) (*store.Store, []api.Link) {
	t.Helper()
	s := made(t, 30)
	one, two := raw(s, "one"), stand(s, old("two"), "two")
	both := tree(s, naming(links(one, two)))
	return s, links(one, two, both, tree(s, sample.Map("z a", named(both), named(one))))
}

// row lays a row of so many blocks, each of which names the next one; the last one names some links. The first one's link is told last.
func row(s *store.Store, n int, ends ...api.Link) []api.Link {
	all := links(tree(s, naming(ends)))
	for len(all) < n {
		all = append(all, tree(s, naming(all[len(all)-1:])))
	}
	return all
}

// many lays so many raw blocks; their links.
func many(t *testing.T, s *store.Store, n int) []api.Link {
	t.Helper()
	var all []api.Link
	var blocks []api.Block
	for i := range n {
		b := strconv.Itoa(i)
		all = append(all, under(api.CodecRaw, b))
		blocks = append(blocks, api.Block{Link: all[i], Bytes: []byte(b)})
	}
	if _, e := s.Add(blocks...); e != api.OK {
		t.Fatal(e)
	}
	return all
}

// standing: what stands in a store, right or not, and how much it is.
func standing(s *store.Store) string {
	var text strings.Builder
	fmt.Fprint(&text, s.Len(), s.Size(), s.Room())
	for _, l := range s.Links() {
		b, e := s.Get(l)
		fmt.Fprintf(&text, " %v:%x:%d", l, b, e)
	}
	return text.String()
}

// anyOf: some link out of a pool, the later ones more often: so rows of blocks are long.
func anyOf(d *sample.Dice, pool []api.Link) api.Link {
	return pool[max(d.Below(len(pool)), d.Below(len(pool)))]
}

// anyTree: some tree, all of whose links are out of a pool.
func anyTree(d *sample.Dice, pool []api.Link) api.Value {
	v := sample.List(sample.Whole(d.Next()))
	for range d.Below(4) {
		v.Items = append(v.Items, sample.Within(named(anyOf(d, pool)), d.Below(4), "lm"))
	}
	return v
}

// anyWorld: some store in which little or nothing is lacking, and a pool of links that are there or not.
func anyWorld(t *testing.T, d *sample.Dice) (*store.Store, []api.Link) {
	t.Helper()
	s := made(t, 1000)
	pool := links(itself(api.CodecRaw, "x"), itself(7, ""), itself(api.CodecTree, "\xff"), raw(s, "raw"), stand(s, old("old"), "old"))
	for i := range 1 + d.Below(20) {
		b := form(anyTree(d, pool))
		switch d.Below(12) {
		case 0:
			pool = append(pool, raw(s, strconv.Itoa(i)))
		case 1:
			pool = append(pool, raw(s, b))
		case 2:
			pool = append(pool, stand(s, under(uint64(d.Below(9)), b), b))
		case 3:
			pool = append(pool, stand(s, old(b), b))
		case 4:
			if b = form(naming(pool[len(pool)-1:])); len(b) <= api.MaxInline {
				pool = append(pool, itself(api.CodecTree, b))
			}
		default:
			pool = append(pool, stand(s, under(api.CodecTree, b), b))
		}
	}
	return s, pool
}

// spoil takes blocks out of a store, forces others, and lays such as are no trees, here and there; what is lacking then is named by a tree, too.
func spoil(d *sample.Dice, s *store.Store, pool []api.Link) []api.Link {
	for range d.Below(3) {
		l := pool[d.Below(len(pool))]
		switch d.Below(3) {
		case 0:
			s.Delete(l)
		case 1:
			if s.Has(l) {
				force(s, l)
			}
		default:
			b := form(naming(links(l))) + "\x00"
			pool = append(pool, tree(s, naming(links(stand(s, under(api.CodecTree, b), b), l))))
		}
	}
	return pool
}

// anyRoots: some links out of a pool, one maybe twice.
func anyRoots(d *sample.Dice, pool []api.Link) []api.Link {
	var list []api.Link
	for range d.Below(4) {
		list = append(list, anyOf(d, pool))
	}
	return list
}

// anyTo: some store into which can be pulled: with some of another one's blocks, right or forced, and room for so many more or less.
func anyTo(t *testing.T, d *sample.Dice, from *store.Store) *store.Store {
	t.Helper()
	s := made(t, 1+d.Below(from.Len()+5))
	raw(s, "beside")
	for _, l := range from.Links() {
		b, e := from.Get(l)
		switch way := d.Below(5); {
		case s.Len() == s.Room() || e != api.OK:
		case way == 0:
			stand(s, l, string(b))
		case way == 1:
			force(s, l)
		}
	}
	return s
}
