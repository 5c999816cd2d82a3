package trie

// Keys, maps, forged tries and broken stores for the tests.

import (
	"crypto/sha256"
	"fmt"
	"maps"
	"math/bits"
	"slices"
	"strconv"
	"strings"

	"trellis/api"
	"trellis/sample"
	"trellis/store"
)

// manyWidths: the least and the greatest of each, levels that leave bits over, one level alone.
var manyWidths = []api.Trie{
	{Width: 1, Bucket: 1, Bytes: 1}, {Width: 2, Bucket: 1, Bytes: 1}, {Width: 3, Bucket: 1, Bytes: 1}, {Width: 3, Bucket: 2, Bytes: 2},
	{Width: 5, Bucket: 1, Bytes: 2}, {Width: 7, Bucket: 3, Bytes: 1}, {Width: 8, Bucket: 2, Bytes: 1}, {Width: 8, Bucket: 16, Bytes: 1},
	{Width: 1, Bucket: 1, Bytes: 32}, {Width: 1, Bucket: 3, Bytes: 3}, {Width: 2, Bucket: 2, Bytes: 32}, {Width: 4, Bucket: 16, Bytes: 2},
	{Width: 6, Bucket: 1, Bytes: 3}, {Width: 8, Bucket: 1, Bytes: 32}, {Width: 8, Bucket: 16, Bytes: 32}, {Width: 1, Bucket: 16, Bytes: 2},
}

// alike tells so many keys whose SHA-256 begins with so many bits of which all are 0.
func alike(zeros, n int) []string {
	var list []string
	for i := 0; len(list) < n; i++ {
		key := "k" + strconv.Itoa(i)
		sum := sha256.Sum256([]byte(key))
		if bits.LeadingZeros32(uint32(sum[0])<<24|uint32(sum[1])<<16|uint32(sum[2])<<8|uint32(sum[3])) >= zeros {
			list = append(list, key)
		}
	}
	return list
}

// keyPool tells keys, many of which begin with one path.
func keyPool() []string {
	list := []string{"", "a", "b", "c", "\x00", "\xff\xfe", "ab", "aa", strings.Repeat("long", 1024)}
	for i := range 12 {
		list = append(list, "key"+strconv.Itoa(i))
	}
	list = append(list, alike(4, 6)...)
	list = append(list, alike(8, 8)...)
	return append(list, alike(13, 3)...)
}

// anyMap tells a map of keys out of a pool, that may be a trie's.
func anyMap(d *sample.Dice, c api.Trie, pool []string) table {
	m := table{}
	for range d.Below(20) {
		key := pool[d.Below(len(pool))]
		m[key] = d.Tree(2)
		if !mayBeMap(c, m) {
			delete(m, key)
		}
	}
	return m
}

// loosened makes nodes of some buckets of a node at a level: they have too few entries then, and are right by themselves.
func loosened(d *sample.Dice, c api.Trie, n knot, level, chance int) {
	for _, i := range slices.Sorted(maps.Keys(n)) {
		x := n[i]
		if x.node == nil && level+1 < depthOf(c) && d.Below(chance) == 0 {
			x = spot{node: knotOf(c, x.bucket, level+1)}
			n[i] = x
		}
		if x.node != nil {
			loosened(d, c, x.node, level+1, chance)
		}
	}
}

// forger makes blocks of a trie in which one node or a few are bent.
type forger struct {
	dice   *sample.Dice
	blocks map[api.Link]string
	widths api.Trie
	chance int
	links  []api.Link // of nodes that have been laid
}

// two tells a node's bits and elements, bent or not.
func (f *forger) two(n knot) []api.Value {
	whole := knot{}
	for i, x := range n {
		if x.node != nil {
			x = spot{link: laidTree(f.blocks, sample.List(f.two(x.node)...))}
			f.links = append(f.links, x.link)
		}
		whole[i] = x
	}
	two := twoOf(f.blocks, f.widths, whole)
	if f.dice.Below(f.chance) == 0 {
		two = f.bent(two)
	}
	return two
}

// root tells the link of a root, bent or not.
func (f *forger) root(n knot) api.Link {
	v := sixOf(f.widths, f.two(n))
	if f.dice.Below(f.chance) == 0 {
		switch at := f.dice.Below(8); at {
		case 0:
			v.Items[0] = []api.Value{sample.Text("tries"), sample.Text(""), octets("trie"), sample.Null()}[f.dice.Below(4)]
		case 1, 2, 3:
			others := []api.Value{sample.Whole(0), sample.Whole(uint64(1 + f.dice.Below(33))), {Kind: api.KindInt, Neg: true}, sample.Float(0x3ff0000000000000), sample.Whole(1<<64 - 1), sample.Whole(1 << 32)}
			v.Items[at] = others[f.dice.Below(len(others))]
		case 4:
			v.Items = append(v.Items, sample.Null())
		case 5:
			v.Items = v.Items[:f.dice.Below(6)]
		case 6:
			v.Items = v.Items[4:]
		case 7:
			v = sample.Map("k", v)
		}
	}
	return laidTree(f.blocks, v)
}

// bent tells bits and elements again, something in them made another thing.
func (f *forger) bent(two []api.Value) []api.Value {
	two = sample.Again(sample.List(two...)).Items
	marks, elements := two[0].Bytes, two[1].Items
	d := f.dice
	switch d.Below(9) {
	case 0, 1:
		marks[d.Below(len(marks))] ^= 1 << d.Below(8)
	case 2:
		two[0].Bytes = append(marks, byte(d.Below(2)))
	case 3:
		two[0].Bytes = marks[:len(marks)-1]
	case 4:
		others := []api.Value{sample.Text("\x01"), sample.Null(), sample.List()}
		two[d.Below(2)] = others[d.Below(3)]
	case 5:
		two = append(two, sample.Null())
	case 6:
		two[1].Items = append(elements, f.element())
	case 7:
		if len(elements) > 0 {
			two[1].Items = slices.Delete(elements, 0, 1)
		}
	case 8:
		if len(elements) > 1 {
			i, j := d.Below(len(elements)), d.Below(len(elements))
			elements[i], elements[j] = elements[j], elements[i]
		}
	}
	if len(elements) > 0 && d.Below(2) == 0 {
		at := d.Below(len(elements))
		if elements[at].Kind == api.KindList && d.Below(4) > 0 {
			f.bend(&elements[at])
		} else {
			elements[at] = f.element()
		}
	}
	return two
}

// element tells something that may stand in the place of an element.
func (f *forger) element() api.Value {
	good := treeLink([]byte{0x80})
	if len(f.links) > 0 && f.dice.Below(2) == 0 {
		good = f.links[f.dice.Below(len(f.links))]
	}
	raw, old, inline := good, good, api.Link{Version: 1, Codec: api.CodecTree, Digest: "\x80"}
	raw.Codec = api.CodecRaw
	old.Version, old.Codec = 0, api.CodecOld
	links := []api.Link{good, good, good, raw, old, inline}
	others := []api.Value{sample.Null(), sample.List(), sample.Map("a", sample.Null()), octets("")}
	if i := f.dice.Below(len(links) + len(others)); i >= len(links) {
		return others[i-len(links)]
	} else {
		return api.Value{Kind: api.KindLink, Link: links[i]}
	}
}

// bend makes something in a bucket another thing.
func (f *forger) bend(bucket *api.Value) {
	d, items := f.dice, bucket.Items
	at := d.Below(len(items))
	other := []api.Value{octets("other"), octets(strings.Repeat("x", 4097)), sample.Text("a"), sample.Null()}
	deep := sample.Within(sample.List(), 511+d.Below(2), "lm")
	long := octets(strings.Repeat("x", 4093+d.Below(2)))
	switch d.Below(9) {
	case 0:
		slices.Reverse(items)
	case 1:
		bucket.Items = slices.Insert(items, at, sample.Again(items[at]))
	case 2:
		items[at].Items[0] = other[d.Below(4)]
	case 3:
		items[at].Items[1] = deep
	case 4:
		items[at].Items[1] = long
	case 5:
		items[at].Items = append(items[at].Items, sample.Null())
	case 6:
		items[at] = other[d.Below(4)]
	case 7:
		for i := range 17 {
			bucket.Items = append(bucket.Items, sample.List(octets("z"+string(rune('a'+i))), sample.Null()))
		}
	case 8:
		bucket.Items = slices.Insert(items, len(items), sample.List(octets("\xff\xff\xff"), sample.Null()))
	}
}

// damaged breaks some blocks of a store: one is lost, or other bytes stand in its place.
func damaged(d *sample.Dice, s *store.Store) {
	for range d.Below(3) {
		links := s.Links()
		if len(links) == 0 {
			return
		}
		l := links[d.Below(len(links))]
		if d.Below(2) == 0 {
			s.Delete(l)
			continue
		}
		if e := s.Force(l, []byte{0x82, 0x41, 0, 0x80}); e != api.OK {
			panic(e)
		}
	}
}

// shownRoot tells what a root reaches, for a test's remark.
func shownRoot(s *store.Store, root api.Link) string {
	text := ""
	for y, e := range All(s, root) {
		text += fmt.Sprintf(" %.20q %d", y.Key, e)
	}
	return text
}
