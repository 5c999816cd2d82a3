package archive

// Links of all sorts, stores right and broken, and files by hand for the tests.

import (
	"crypto/sha256"
	"encoding/binary"
	"fmt"
	"slices"
	"strconv"
	"strings"
	"testing"

	"trellis/api"
	"trellis/lay"
	"trellis/sample"
	"trellis/store"
)

func links(l ...api.Link) []api.Link { return l }

func linkOf(l api.Link) api.Value { return api.Value{Kind: api.KindLink, Link: l} }

// listOf: a list of links.
func listOf(l ...api.Link) api.Value {
	v := sample.List()
	for _, x := range l {
		v.Items = append(v.Items, linkOf(x))
	}
	return v
}

// linkIn: the link of version 1 of a block.
func linkIn(codec uint64, b string) api.Link {
	sum := sha256.Sum256([]byte(b))
	return api.Link{Version: 1, Codec: codec, Hash: api.HashSha, Digest: string(sum[:])}
}

// oldLink: the link of version 0 of a block.
func oldLink(b string) api.Link {
	l := linkIn(api.CodecOld, b)
	l.Version = 0
	return l
}

// inline: the link of the bytes themselves.
func inline(codec uint64, b string) api.Link {
	return api.Link{Version: 1, Codec: codec, Hash: api.HashNone, Digest: b}
}

// noLinks: links that may not be, each nearly one that may.
func noLinks() []api.Link {
	good, old := linkIn(api.CodecTree, "a"), oldLink("a")
	list := []api.Link{{}, good, good, good, good, good, good, old, old, old, inline(api.CodecTree, strings.Repeat("x", api.MaxInline+1)), inline(1<<63, "")}
	list[1].Version = 2
	list[2].Version = -1
	list[3].Codec = 1 << 63
	list[4].Hash = 0x13
	list[5].Digest = good.Digest[1:]
	list[6].Digest += "x"
	list[7].Codec = api.CodecTree
	list[8].Hash = api.HashNone
	list[9].Digest = ""
	return list
}

// formOf: the form of a tree.
func formOf(v api.Value) string {
	b, e := lay.Encode(v)
	if e != api.OK {
		panic(e)
	}
	return string(b)
}

// made: a store with room for so many blocks.
func made(t *testing.T, room int) *store.Store {
	t.Helper()
	s, e := store.New(room)
	if e != api.OK {
		t.Fatal(e)
	}
	return s
}

// add lays a block under a link that holds it; the link.
func add(s *store.Store, l api.Link, b string) api.Link {
	if _, e := s.Add(api.Block{Link: l, Bytes: []byte(b)}); e != api.OK {
		panic(e)
	}
	return l
}

// put lays the block of a tree into a store.
func put(s *store.Store, v api.Value) api.Link {
	b := formOf(v)
	return add(s, linkIn(api.CodecTree, b), b)
}

// raw lays a raw block into a store.
func raw(s *store.Store, b string) api.Link { return add(s, linkIn(api.CodecRaw, b), b) }

// world: the store of the chapter's examples, and the links there: r and t.
func world(t *testing.T) (s *store.Store, r, tree api.Link) {
	t.Helper()
	s = made(t, 100)
	r = raw(s, "\x01\x02")
	return s, r, put(s, listOf(r))
}

// standing: what stands in a store, right or not, and how much it is.
func standing(s *store.Store) string {
	text := fmt.Sprint(s.Len(), s.Size(), s.Room())
	for _, l := range s.Links() {
		b, e := s.Get(l)
		text += fmt.Sprintf(" %v:%x:%d", l, b, e)
	}
	return text
}

// broken: a copy of a store in which a block is lost, or other bytes stand in its place.
func broken(s *store.Store, l api.Link, e api.Errno) *store.Store {
	s = s.Copy()
	if e == api.ErrStoreNone {
		s.Delete(l)
	} else if f := s.Force(l, []byte{0x82, 0x41, 0, 0x80}); f != api.OK {
		panic(f)
	}
	return s
}

// blockOf: a block and its link, whether that holds it or not.
func blockOf(l api.Link, b string) api.Block { return api.Block{Link: l, Bytes: []byte(b)} }

// rawBlock, treeBlock: a block under its right link.
func rawBlock(b string) api.Block { return blockOf(linkIn(api.CodecRaw, b), b) }

func treeBlock(v api.Value) api.Block {
	b := formOf(v)
	return blockOf(linkIn(api.CodecTree, b), b)
}

// number: a varint.
func number(n uint64) string { return string(binary.AppendUvarint(nil, n)) }

// part: bytes with their length ahead.
func part(pieces ...string) string {
	b := strings.Join(pieces, "")
	return number(uint64(len(b))) + b
}

// name: a link's bytes.
func name(l api.Link) string {
	if l.Version == 0 {
		return "\x12\x20" + l.Digest
	}
	return "\x01" + number(l.Codec) + number(l.Hash) + part(l.Digest)
}

// count: the head of an item of a form, by the first byte of the shortest one.
func count(first byte, n int) string {
	switch {
	case n < 24:
		return string([]byte{first + byte(n)})
	case n < 1<<8:
		return string([]byte{first + 24, byte(n)})
	case n < 1<<16:
		return string(binary.BigEndian.AppendUint16([]byte{first + 25}, uint16(n)))
	}
	return string(binary.BigEndian.AppendUint32([]byte{first + 26}, uint32(n)))
}

// linkForm: the form of a link.
func linkForm(l api.Link) string {
	return "\xd8\x2a" + count(0x40, 1+len(name(l))) + "\x00" + name(l)
}

// headForm: the form of a head with such roots, as they stand.
func headForm(roots ...api.Link) string {
	var b strings.Builder
	b.WriteString("\xa2\x65roots" + count(0x80, len(roots)))
	for _, l := range roots {
		b.WriteString(linkForm(l))
	}
	return b.String() + "\x67version\x01"
}

// laid: blocks as parts of a file, as they stand.
func laid(blocks ...api.Block) string {
	var b strings.Builder
	for _, x := range blocks {
		head := name(x.Link)
		b.WriteString(number(uint64(len(head)+len(x.Bytes))) + head)
		b.Write(x.Bytes)
	}
	return b.String()
}

// fileOf: a file with such roots and blocks, as they stand.
func fileOf(roots []api.Link, blocks ...api.Block) string {
	return part(headForm(roots...)) + laid(blocks...)
}

// sorted: links by their bytes, each once.
func sorted(l []api.Link) []api.Link {
	l = slices.Clone(l)
	slices.SortFunc(l, func(a, b api.Link) int { return strings.Compare(name(a), name(b)) })
	return slices.Compact(l)
}

// inRow: blocks by their links' bytes.
func inRow(blocks ...api.Block) []api.Block {
	slices.SortFunc(blocks, func(a, b api.Block) int { return strings.Compare(name(a.Link), name(b.Link)) })
	return blocks
}

// withLinks: a tree again, some of its leaves links out of a pool, the later ones more often: so rows of blocks are long.
func withLinks(d *sample.Dice, v api.Value, pool []api.Link) api.Value {
	v = sample.Again(v)
	if len(v.Items) == 0 && (d.Below(4) > 0 || v.Kind == api.KindLink) {
		return linkOf(pool[max(d.Below(len(pool)), d.Below(len(pool)))])
	}
	for i, x := range v.Items {
		v.Items[i] = withLinks(d, x, pool)
	}
	return v
}

// anyBlock lays some block, in which links out of a pool may be; its link.
func anyBlock(d *sample.Dice, s *store.Store, pool []api.Link) api.Link {
	form := formOf(withLinks(d, d.Tree(2), pool))
	codecs := []uint64{0, 1, 7, api.CodecOld, 0x7f, 0x80, 0x4000, 1<<63 - 1}
	switch d.Below(12) {
	case 0:
		return raw(s, form)
	case 1:
		return raw(s, strconv.Itoa(d.Below(50)))
	case 2:
		return add(s, linkIn(codecs[d.Below(len(codecs))], form), form)
	case 3:
		return add(s, oldLink(form), form)
	case 4:
		return inline(api.CodecTree, formOf(listOf(pool[d.Below(len(pool))]))[:1])
	case 5:
		if form = formOf(listOf(pool[d.Below(len(pool))])); len(form) <= api.MaxInline {
			return inline(api.CodecTree, form)
		}
	case 6:
		return raw(s, "")
	}
	return add(s, linkIn(api.CodecTree, form), form)
}

// anyWorld: some store in which nothing is lacking, and a pool of links that may be there.
func anyWorld(t *testing.T, d *sample.Dice) (*store.Store, []api.Link) {
	t.Helper()
	s := made(t, 1000)
	pool := []api.Link{inline(api.CodecRaw, "x"), inline(7, ""), inline(api.CodecTree, "\xff"), raw(s, "raw"), add(s, oldLink("old"), "old")}
	for range 1 + d.Below(14) {
		pool = append(pool, anyBlock(d, s, pool))
	}
	return s, pool
}

// anyRoots: one or more links out of a pool under which blocks can stand, one maybe twice.
func anyRoots(d *sample.Dice, pool []api.Link) []api.Link {
	var list []api.Link
	for len(list) == 0 || d.Below(2) > 0 {
		if l := pool[max(d.Below(len(pool)), d.Below(len(pool)))]; l.Hash == api.HashSha {
			list = append(list, l)
		}
	}
	return list
}

// anyFile: some file as Write tells it, by the plain reading.
func anyFile(t *testing.T, d *sample.Dice) (b string, a api.Archive) {
	t.Helper()
	s, pool := anyWorld(t, d)
	b, e := plainWrite(s, anyRoots(d, pool))
	if e != api.OK {
		t.Fatal(e)
	}
	a, f := plainRead(b)
	if f != (api.Fault{}) {
		t.Fatal(f)
	}
	return b, a
}
