package store

// Links, blocks and calls for the tests: few unlike ones, so that they meet, and such that may not be.

import (
	"bytes"
	"fmt"
	"slices"
	"strings"

	"trellis/api"
	"trellis/sample"
)

// texts: the bytes of the tests' blocks.
var texts = []string{"", "a", "b", "c", "bb", "\x00", "\xff\xfe", strings.Repeat("x", 64), strings.Repeat("long", 50)}

// linkOf tells the link of bytes, of CodecRaw.
func linkOf(b string) api.Link {
	return api.Link{Version: 1, Codec: api.CodecRaw, Hash: api.HashSha, Digest: sha(b)}
}

// oldOf tells the link of version 0 of bytes.
func oldOf(b string) api.Link {
	return api.Link{Version: 0, Codec: api.CodecOld, Hash: api.HashSha, Digest: sha(b)}
}

func blockOf(b string) api.Block { return api.Block{Link: linkOf(b), Bytes: []byte(b)} }

func under(l api.Link, b string) api.Block { return api.Block{Link: l, Bytes: []byte(b)} }

// goodLinks tells links that store, many of one digest.
func goodLinks() []api.Link {
	var list []api.Link
	for _, b := range texts {
		list = append(list, linkOf(b), oldOf(b))
	}
	for _, codec := range []uint64{0, 1, api.CodecOld, api.CodecTree, 127, 128, 1 << 62, 1<<63 - 1} {
		list = append(list, api.Link{Version: 1, Codec: codec, Hash: api.HashSha, Digest: sha("a")})
	}
	return append(list, api.Link{Version: 1, Codec: api.CodecRaw, Hash: api.HashSha, Digest: strings.Repeat("\x00", 32)})
}

// inlineLinks tells links that may be and hold bytes by themselves.
func inlineLinks() []api.Link {
	var list []api.Link
	for _, b := range []string{"", "hi", sha("a"), strings.Repeat("x", 64)} {
		list = append(list, api.Link{Version: 1, Codec: api.CodecRaw, Digest: b}, api.Link{Version: 1, Codec: 1<<63 - 1, Digest: b})
	}
	return list
}

// badLinks tells links that may not be.
func badLinks() []api.Link {
	list := []api.Link{{}, {Version: 1, Hash: api.HashSha}, {Hash: api.HashSha, Digest: sha("a")}, {Version: 1, Digest: strings.Repeat("x", 65)}, {Codec: api.CodecOld, Digest: "hi"}, {Codec: api.CodecOld, Digest: sha("a")}}
	for _, b := range []string{"", "a"} {
		for _, version := range []int{-1, 0, 2, 18, -1 << 63, 1<<63 - 1} {
			list = append(list, api.Link{Version: version, Codec: api.CodecRaw, Hash: api.HashSha, Digest: sha(b)})
		}
		for _, codec := range []uint64{1 << 63, 1<<63 + 1, 1<<64 - 1} {
			list = append(list, api.Link{Version: 1, Codec: codec, Hash: api.HashSha, Digest: sha(b)})
		}
		for _, hash := range []uint64{1, 0x11, 0x13, 1<<64 - 1} {
			list = append(list, api.Link{Version: 1, Codec: api.CodecRaw, Hash: hash, Digest: sha(b)})
		}
		for _, sum := range []string{"", sha(b)[:31], sha(b) + "\x00", sha(b) + sha(b)} {
			list = append(list, api.Link{Version: 1, Codec: api.CodecRaw, Hash: api.HashSha, Digest: sum}, api.Link{Codec: api.CodecOld, Hash: api.HashSha, Digest: sum})
		}
	}
	return list
}

// allLinks tells all of them.
func allLinks() []api.Link { return slices.Concat(goodLinks(), inlineLinks(), badLinks()) }

func pick[T any](d *sample.Dice, list []T) T { return list[d.Below(len(list))] }

// anyBlock tells some block, most often one that is its link's.
func anyBlock(d *sample.Dice) api.Block {
	b := pick(d, texts)
	switch d.Below(12) {
	case 0:
		return under(pick(d, goodLinks()), b)
	case 1:
		return under(pick(d, allLinks()), b)
	case 2, 3:
		return under(oldOf(b), b)
	}
	return blockOf(b)
}

func anyLink(d *sample.Dice) api.Link {
	if d.Below(6) == 0 {
		return pick(d, allLinks())
	}
	return anyBlock(d).Link
}

// What a call may be.
const (
	callPut = iota
	callAdd
	callForce
	callGet
	callHas
	callDelete
	callLinks
	callLen
	callSize
	callCopy
	callRoom
	calls
)

// call is one call of a store.
type call struct {
	kind  int
	codec uint64
	list  []api.Block // of callAdd; else its first block tells the link and the bytes
}

// anyCall tells some call.
func anyCall(d *sample.Dice) call {
	c := call{kind: d.Below(calls + 3), codec: api.CodecRaw, list: []api.Block{anyBlock(d)}}
	switch c.kind {
	case calls, callAdd:
		c.kind, c.list = callAdd, nil
		for range d.Below(5) {
			c.list = append(c.list, anyBlock(d))
		}
	case calls + 1, callForce:
		c.kind = callForce
		c.list[0] = under(anyLink(d), pick(d, texts))
	case calls + 2, callGet, callHas, callDelete:
		c.kind = []int{callGet, callHas, callDelete}[d.Below(3)]
		c.list[0].Link = anyLink(d)
	case callPut:
		c.codec = pick(d, []uint64{api.CodecRaw, api.CodecRaw, api.CodecRaw, 0, 1<<63 - 1, 1 << 63})
	}
	return c
}

// on tells what a store answers.
func (c call) on(s *Store) string {
	switch c.kind {
	case callPut:
		return line(s.Put(c.codec, c.list[0].Bytes))
	case callAdd:
		return line(s.Add(c.list...))
	case callForce:
		return line(s.Force(c.list[0].Link, c.list[0].Bytes))
	case callGet:
		return line(s.Get(c.list[0].Link))
	case callHas:
		return line(s.Has(c.list[0].Link))
	case callDelete:
		return line(s.Delete(c.list[0].Link))
	case callLinks:
		return line(s.Links())
	case callLen:
		return line(s.Len())
	case callSize:
		return line(s.Size())
	case callCopy:
		return whole(s.Copy())
	}
	return line(s.Room())
}

// plainly tells what the chapter says of it.
func (c call) plainly(p *plain) string {
	switch c.kind {
	case callPut:
		return line(p.put(c.codec, c.list[0].Bytes))
	case callAdd:
		return line(p.add(c.list, right))
	case callForce:
		return line(p.force(c.list[0].Link, c.list[0].Bytes))
	case callGet:
		return line(p.get(c.list[0].Link))
	case callHas:
		return line(p.at(c.list[0].Link) >= 0)
	case callDelete:
		return line(p.delete(c.list[0].Link))
	case callLinks:
		return line(p.links())
	case callLen:
		return line(len(p.blocks))
	case callSize:
		return line(p.size())
	case callCopy:
		return wholly(p)
	}
	return line(p.room)
}

// line tells answers as a text, links and bytes by digits.
func line(answers ...any) string {
	var out strings.Builder
	for _, x := range answers {
		switch x.(type) {
		case []byte, api.Link, []api.Link:
			fmt.Fprintf(&out, "%x ", x)
		default:
			fmt.Fprintf(&out, "%v ", x)
		}
	}
	return out.String() + "\n"
}

// shown tells blocks in an error's text, the first ones and of each its front.
func shown(list []api.Block) string {
	var out strings.Builder
	for _, x := range list[:min(len(list), 10)] {
		fmt.Fprintf(&out, "{%d %#x %#x %.4x: %.20q}", x.Link.Version, x.Link.Codec, x.Link.Hash, x.Link.Digest, x.Bytes)
	}
	return out.String()
}

// String tells a call in an error's text.
func (c call) String() string {
	name := strings.Fields("Put Add Force Get Has Delete Links Len Size Copy Room")[c.kind]
	return fmt.Sprintf("%s %#x %s", name, c.codec, shown(c.list))
}

// whole tells all that a store answers of what stands in it.
func whole(s *Store) string {
	var out strings.Builder
	links := s.Links()
	out.WriteString(line(s.Room(), s.Len(), s.Size(), links))
	for _, l := range links {
		b, e := s.Get(l)
		out.WriteString(line(s.Has(l), b, e))
	}
	return out.String()
}

// wholly tells the same of a plain one.
func wholly(p *plain) string {
	var out strings.Builder
	links := p.links()
	out.WriteString(line(p.room, len(p.blocks), p.size(), links))
	for _, l := range links {
		b, e := p.get(l)
		out.WriteString(line(p.at(l) >= 0, b, e))
	}
	return out.String()
}

// again tells the same list of blocks, in new memory with spare room behind it.
func again(list []api.Block) []api.Block {
	out := make([]api.Block, 0, len(list)+3)
	for _, x := range list {
		out = append(out, api.Block{Link: x.Link, Bytes: append(make([]byte, 0, len(x.Bytes)+5), x.Bytes...)})
	}
	return out
}

// same tells whether two lists of blocks are alike, their spare room too.
func same(a, b []api.Block) bool {
	return slices.EqualFunc(a[:cap(a)], b[:cap(b)], func(x, y api.Block) bool {
		return x.Link == y.Link && bytes.Equal(x.Bytes[:cap(x.Bytes)], y.Bytes[:cap(y.Bytes)])
	})
}
