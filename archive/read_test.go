package archive

// P19.2: what Read tells, and its faults in their order.

import (
	"fmt"
	"slices"
	"strings"
	"testing"

	"trellis/api"
	"trellis/sample"
)

// small: the file of example 1, its root and its one block.
func small() (string, api.Link, api.Block) {
	x := rawBlock("\x01\x02")
	return fileOf(links(x.Link), x), x.Link, x
}

// TestReadExamples: the chapter's examples 1 and 3.
func TestReadExamples(t *testing.T) {
	b, r, x := small()
	taken(t, "1", b, links(r), x)
	faulty(t, "none", "", api.ErrArchiveShort, 0)
	faulty(t, "81 00", "\x81\x00", api.ErrArchiveHead, 0)
	faulty(t, "01", "\x01", api.ErrArchiveShort, 1)
	faulty(t, "01 f6", "\x01\xf6", api.ErrArchiveHead, 1)
	faulty(t, "without its last byte", b[:97], api.ErrArchiveShort, 60)
	faulty(t, "without its block", b[:59], api.ErrArchiveLeft, 59)
	faulty(t, "one more byte", b+"\x03", api.ErrArchiveShort, 99)
	faulty(t, "another last byte", b[:97]+"\x03", api.ErrArchiveBlock, 96)
	faulty(t, "its block twice", b+b[59:], api.ErrArchiveOrder, 99)
	tree := treeBlock(listOf(r))
	taken(t, "2", fileOf(links(tree.Link), x, tree), links(tree.Link), x, tree)
	if a, f := Read([]byte{}); f != (api.Fault{Code: api.ErrArchiveShort}) || a.Roots != nil || a.Blocks != nil {
		t.Errorf("an empty list: %v", f)
	}
}

// badLengths: beginnings that are no varint, and what is told of them, whatever stands behind; those that are cut hold of themselves alone.
func badLengths() (wrong, cut []string) {
	wrong = []string{"\x80\x00", "\x81\x00", "\xff\x00", "\x80\x80\x00", strings.Repeat("\x80", 8) + "\x00", strings.Repeat("\xff", 8) + "\x00", strings.Repeat("\xff", 9), strings.Repeat("\x80", 9), strings.Repeat("\x80", 9) + "\x01", strings.Repeat("\xff", 20)}
	for n := 1; n <= 8; n++ {
		cut = append(cut, strings.Repeat("\x80", n), strings.Repeat("\xff", n))
	}
	return wrong, cut
}

// TestLengths: the varints of the head and of the blocks: too long, not the shortest, cut, of more than there is.
func TestLengths(t *testing.T) {
	b, r, x := small()
	wrong, cut := badLengths()
	for _, n := range wrong {
		what := fmt.Sprintf("%x", n)
		faulty(t, what, n, api.ErrArchiveHead, 0)
		faulty(t, what, n+b, api.ErrArchiveHead, 0)
		faulty(t, what+" behind", b+n, api.ErrArchiveHead, 98)
		faulty(t, what+" behind the head", b[:59]+n+b[60:], api.ErrArchiveHead, 59)
	}
	for _, n := range cut {
		what := fmt.Sprintf("%x", n)
		faulty(t, what, n, api.ErrArchiveShort, 0)
		faulty(t, what+" behind", b+n, api.ErrArchiveShort, 98)
		faulty(t, what+" behind the head", b[:59]+n, api.ErrArchiveShort, 59)
	}
	faulty(t, "the head's length in two bytes", "\xba\x00"+b[1:], api.ErrArchiveHead, 0)
	faulty(t, "the block's length in two bytes", b[:59]+"\xa6\x00"+b[60:], api.ErrArchiveHead, 59)
	for _, n := range []uint64{98, 127, 128, 1 << 14, 1 << 28, 1<<31 - 1, 1 << 31, 1 << 32, 1<<32 + 58, 1 << 62, 1<<63 - 1} {
		used := len(number(n))
		faulty(t, fmt.Sprint("a head of ", n), number(n)+b[1:], api.ErrArchiveShort, used)
		faulty(t, fmt.Sprint("a block of ", n), b[:59]+number(n)+b[60:], api.ErrArchiveShort, 59+used)
		faulty(t, fmt.Sprint("a second block of ", n), b+number(n), api.ErrArchiveShort, 98+used)
	}
	long := rawBlock(strings.Repeat("x", 300))
	taken(t, "a length of two bytes", fileOf(links(long.Link), long), links(long.Link), long)
	both := inRow(long, x)
	taken(t, "both", fileOf(sorted(links(r, long.Link)), both...), sorted(links(r, long.Link)), both...)
}

// TestPartLengths: parts that are shorter or longer than they say: by one byte, by many.
func TestPartLengths(t *testing.T) {
	b, _, _ := small()
	for n := range 97 {
		if n == 58 {
			continue
		}
		what := fmt.Sprint("a head of ", n)
		faulty(t, what, number(uint64(n))+b[1:], api.ErrArchiveHead, 1)
		if n > 58 {
			faulty(t, what+" alone", number(uint64(n))+b[1:59], api.ErrArchiveShort, 1)
		}
	}
	behind := b[60:] + strings.Repeat("\x00", 200)
	for n := range 120 {
		what, file := fmt.Sprint("a block of ", n), b[:59]+number(uint64(n))+behind
		switch {
		case n < 36:
			faulty(t, what, file, api.ErrArchiveLink, 60)
		case n != 38:
			faulty(t, what, file, api.ErrArchiveBlock, 96)
		default:
			faulty(t, what, file, api.ErrArchiveLink, 99) // the length 0 behind it
		}
		if n > 38 {
			faulty(t, what+" alone", b[:59]+number(uint64(n))+b[60:], api.ErrArchiveShort, 60)
		}
	}
}

// badHeads: forms, and what is none, that are no head, each nearly one.
func badHeads() map[string]string {
	x, y := linkIn(api.CodecRaw, "x"), oldLink("z")
	one := sample.Whole(1)
	list := listOf(x, y)
	forms := map[string]api.Value{
		"null": sample.Null(), "a list": sample.List(list, one), "an empty map": sample.Map(""), "a link": linkOf(x), "the list alone": list, "the map in a list": sample.List(sample.Map("roots version", list, one)),
		"no version": sample.Map("roots", list), "no roots": sample.Map("version", one), "other roots": sample.Map("Roots version", list, one), "another version's key": sample.Map("roots Version", list, one),
		"a key ahead": sample.Map("a roots version", one, list, one), "a key between": sample.Map("roots sroots version", list, one, one), "a key behind": sample.Map("roots version versions", list, one, one),
		"another key instead": sample.Map("roots versions", list, one), "keys the other way": sample.Map("roots version", one, list),
		"version 0": sample.Map("roots version", list, sample.Whole(0)), "version 2": sample.Map("roots version", list, sample.Whole(2)), "a great version": sample.Map("roots version", list, sample.Whole(1<<32+1)),
		"version -1": sample.Map("roots version", list, api.Value{Kind: api.KindInt, Neg: true}), "version -2": sample.Map("roots version", list, api.Value{Kind: api.KindInt, Neg: true, N: 1}),
		"version 1.0": sample.Map("roots version", list, sample.Float(0x3ff0000000000000)), "a version of bits": sample.Map("roots version", list, sample.Float(1)), "a text": sample.Map("roots version", list, sample.Text("1")), "true": sample.Map("roots version", list, api.Value{Kind: api.KindBool, Flag: true}),
		"null's version": sample.Map("roots version", list, sample.Null()), "a list's version": sample.Map("roots version", list, sample.List(one)), "a link's version": sample.Map("roots version", list, linkOf(x)),
		"no links": sample.Map("roots version", sample.List(), one), "no list": sample.Map("roots version", sample.Null(), one), "a link, no list": sample.Map("roots version", linkOf(x), one), "a map, no list": sample.Map("roots version", sample.Map("a", linkOf(x)), one), "an empty map, no list": sample.Map("roots version", sample.Map(""), one),
		"bytes, no link": sample.Map("roots version", sample.List(api.Value{Kind: api.KindBytes, Bytes: []byte(name(x))}), one), "null, no link": sample.Map("roots version", sample.List(sample.Null()), one), "null ahead": sample.Map("roots version", sample.List(sample.Null(), linkOf(x)), one), "null behind": sample.Map("roots version", sample.List(linkOf(x), sample.Null()), one),
		"a list in the list": sample.Map("roots version", sample.List(listOf(x)), one), "twice": sample.Map("roots version", listOf(x, x), one), "twice behind": sample.Map("roots version", listOf(x, y, y), one), "falling": sample.Map("roots version", listOf(y, x), one), "falling behind": sample.Map("roots version", listOf(x, y, x), one),
		"rising by their lengths": sample.Map("roots version", listOf(y, linkIn(api.CodecTree, "x")), one), "falling by their codecs": sample.Map("roots version", listOf(linkIn(api.CodecTree, "x"), x), one),
		"an inline link": sample.Map("roots version", listOf(inline(api.CodecRaw, "x")), one), "an inline link ahead": sample.Map("roots version", listOf(inline(0, ""), x), one), "an inline link behind": sample.Map("roots version", listOf(x, inline(1<<63-1, "x")), one), "an inline tree": sample.Map("roots version", listOf(inline(api.CodecTree, "\xf6")), one),
		"too deep a list": sample.Map("roots version", sample.Within(linkOf(x), api.MaxDepth-1, "l"), one),
	}
	good := headForm(x, y)
	heads := map[string]string{
		"no bytes": "", "a byte behind": good + "\x00", "a head behind": good + good, "a byte ahead": "\x00" + good,
		"a long map": "\xb8\x02" + good[1:], "an endless map": "\xbf" + good[1:] + "\xff", "a long key": "\xa2\x78\x05" + good[2:], "a long list": strings.Replace(good, "roots\x82", "roots\x98\x02", 1),
		"a long version": good[:len(good)-1] + "\x18\x01", "another tag": strings.Replace(good, "\xd8\x2a", "\xd8\x2b", 1), "a long tag": strings.Replace(good, "\xd8\x2a", "\xd9\x00\x2a", 1),
		"the version ahead": "\xa2" + good[len(good)-9:] + good[1:len(good)-9], "no zero ahead of a link": strings.Replace(good, "\x58\x25\x00", "\x58\x24", 1), "a link that may not be": strings.Replace(good, "\x00\x01\x55\x12\x20", "\x00\x02\x55\x12\x20", 1),
		"more roots than there are": strings.Replace(good, "roots\x82", "roots\x83", 1), "fewer roots than there are": strings.Replace(good, "roots\x82", "roots\x81", 1), "very many roots": strings.Replace(good, "roots\x82", "roots\x9b\xff\xff\xff\xff\xff\xff\xff\xff", 1),
		"too deep": strings.Repeat("\x81", api.MaxDepth+1) + "\x00",
	}
	for what, v := range forms {
		heads[what] = formOf(v)
	}
	for n := range len(good) {
		heads[fmt.Sprint("the first ", n, " bytes")] = good[:n]
	}
	return heads
}

// TestHeads: heads that are none: alone, and with blocks behind them.
func TestHeads(t *testing.T) {
	x, z := rawBlock("x"), blockOf(oldLink("z"), "z")
	good := headForm(x.Link, z.Link)
	taken(t, "the right one", part(good)+laid(x, z), links(x.Link, z.Link), x, z)
	for what, head := range badHeads() {
		if head == good {
			t.Fatalf("%s: it is right", what)
		}
		at := len(number(uint64(len(head))))
		faulty(t, what, part(head), api.ErrArchiveHead, at)
		faulty(t, what+", with blocks", part(head)+laid(x, z), api.ErrArchiveHead, at)
		faulty(t, what+", with wrong blocks", part(head)+laid(z, x), api.ErrArchiveHead, at)
		faulty(t, what+", cut", part(head)+"\x80", api.ErrArchiveHead, at)
	}
}

// TestManyRoots: heads of 1 to 300 roots, by versions and codecs in their order.
func TestManyRoots(t *testing.T) {
	codecs := []uint64{0, api.CodecRaw, api.CodecOld, 0x7f, 0x80, 0xff, 0x3fff, 0x4000, 1 << 32, 1<<63 - 1}
	var blocks []api.Block
	for i := range 300 {
		b := fmt.Sprint(i)
		l := oldLink(b)
		if i%4 > 0 {
			l = linkIn(codecs[i%len(codecs)], b)
		}
		blocks = inRow(append(blocks, blockOf(l, b))...)
		if n := len(blocks); n > 30 && n%27 != 0 && n != 255 && n != 256 {
			continue
		}
		var roots []api.Link
		for _, x := range blocks {
			roots = append(roots, x.Link)
		}
		taken(t, fmt.Sprint(i), fileOf(roots, blocks...), roots, blocks...)
		if len(roots) < 2 {
			continue
		}
		at := len(number(uint64(len(headForm(roots...)))))
		swapped := slices.Clone(roots)
		swapped[i/2], swapped[i/2+1] = swapped[i/2+1], swapped[i/2]
		faulty(t, "two swapped", fileOf(swapped, blocks...), api.ErrArchiveHead, at)
	}
}

// badNames: what is no link of HashSha at the front of a part.
func badNames() map[string]string {
	right := name(linkIn(api.CodecRaw, "x"))
	old := name(oldLink("x"))
	list := map[string]string{
		"no link": "", "version 0 by a number": "\x00" + right[1:], "version 2": "\x02" + right[1:], "a long version": "\x81\x00" + right[1:], "a version without an end": "\xff",
		"a long codec": "\x01\xd5\x00" + right[2:], "too long a codec": "\x01" + strings.Repeat("\xff", 9) + "\x01" + right[2:], "another hash": "\x01\x55\x13\x20" + right[4:], "a long hash": "\x01\x55\x92\x00\x20" + right[4:], "a digest of 31 bytes": "\x01\x55\x12\x1f" + right[4:], "a digest of 33 bytes": "\x01\x55\x12\x21" + right[4:] + "x", "a long length": "\x01\x55\x12\xa0\x00" + right[4:],
		"an old one of 31 bytes": "\x12\x1f" + old[2:], "an old one of a long length": "\x12\xa0\x00" + old[2:], "a digest alone": old[2:], "a form": linkForm(linkIn(api.CodecRaw, "x")),
		"inline": name(inline(api.CodecRaw, "x")), "inline, no bytes": name(inline(api.CodecRaw, "")), "inline, a tree": name(inline(api.CodecTree, "\xf6")), "inline, of 32 bytes": name(inline(api.CodecRaw, right[4:])), "inline, of 64 bytes": name(inline(7, strings.Repeat("x", 64))), "inline, of 65 bytes": name(inline(7, strings.Repeat("x", 65))),
	}
	for n := range len(right) {
		list[fmt.Sprint("the first ", n, " bytes")] = right[:n]
	}
	for n := range len(old) {
		list[fmt.Sprint("an old one's first ", n, " bytes")] = old[:n]
	}
	return list
}

// TestNames: parts whose links are none, or may not be there; at the first block's place, behind a block, ahead of one.
func TestNames(t *testing.T) {
	b, r, _ := small()
	high := blockOf(linkIn(1<<63-1, "high"), "high")
	for what, bad := range badNames() {
		faulty(t, what, b[:59]+part(bad), api.ErrArchiveLink, 60)
		faulty(t, what+", then one that is right", b[:59]+part(bad)+b[59:], api.ErrArchiveLink, 60)
		faulty(t, what+", behind", b+part(bad), api.ErrArchiveLink, 99)
		faulty(t, what+", behind the greatest", b+laid(high)+part(bad), api.ErrArchiveLink, 99+len(laid(high)))
	}
	whole := name(r)
	for n := range len(whole) {
		// The bytes behind the part would make the link whole, but are none of it.
		faulty(t, fmt.Sprint("going on behind ", n), b[:59]+part(whole[:n])+whole[n:]+"\x01\x02", api.ErrArchiveLink, 60)
	}
	for _, l := range links(linkIn(0, "x"), linkIn(api.CodecOld, "x"), linkIn(0x80, "x"), linkIn(1<<63-1, "x"), oldLink("x"), linkIn(api.CodecRaw, "x")) {
		x := blockOf(l, "x")
		taken(t, fmt.Sprint(l), fileOf(links(l), x), links(l), x)
	}
}

// TestBlocksOrder: blocks twice, in another order, and which fault counts if several apply.
func TestBlocksOrder(t *testing.T) {
	blocks := inRow(rawBlock("a"), rawBlock("b"), rawBlock(""), blockOf(oldLink("a"), "a"), blockOf(linkIn(0, "a"), "a"), blockOf(linkIn(0x80, "c"), "c"))
	var roots []api.Link
	for _, x := range blocks {
		roots = append(roots, x.Link)
	}
	taken(t, "in order", fileOf(roots, blocks...), roots, blocks...)
	head := part(headForm(roots...))
	places := []int{len(head)}
	for i := range blocks {
		places = append(places, places[i]+len(laid(blocks[i])))
	}
	for i := range len(blocks) - 1 {
		faulty(t, fmt.Sprint(i, " twice"), head+laid(slices.Insert(slices.Clone(blocks), i, blocks[i])...), api.ErrArchiveOrder, places[i+1]+1)
		faulty(t, fmt.Sprint(i, " at the end again"), head+laid(append(slices.Clone(blocks), blocks[i])...), api.ErrArchiveOrder, places[len(blocks)]+1)
		swapped := slices.Clone(blocks)
		swapped[i], swapped[i+1] = swapped[i+1], swapped[i]
		at := places[i] + len(laid(blocks[i+1])) + 1
		faulty(t, fmt.Sprint(i, " swapped"), head+laid(swapped...), api.ErrArchiveOrder, at)
		wrong := slices.Clone(swapped)
		wrong[i+1] = blockOf(wrong[i+1].Link, "wrong")
		faulty(t, fmt.Sprint(i, " swapped and wrong"), head+laid(wrong...), api.ErrArchiveOrder, at)
		wrong = slices.Clone(swapped)
		wrong[i] = blockOf(wrong[i].Link, "wrong")
		faulty(t, fmt.Sprint(i, " wrong, and then swapped"), head+laid(wrong...), api.ErrArchiveBlock, places[i]+1+len(name(wrong[i].Link)))
		faulty(t, fmt.Sprint(i, " swapped, and then cut"), head+laid(swapped...)+"\x80", api.ErrArchiveOrder, at)
	}
	for i := range blocks {
		wrong := slices.Clone(blocks)
		wrong[i] = blockOf(blocks[i].Link, string(blocks[i].Bytes)+"x")
		at := places[i] + 1 + len(name(blocks[i].Link))
		faulty(t, fmt.Sprint(i, " wrong"), head+laid(wrong...), api.ErrArchiveBlock, at)
		faulty(t, fmt.Sprint(i, " wrong, too few"), head+laid(wrong[:i+1]...), api.ErrArchiveBlock, at)
		faulty(t, fmt.Sprint(i, " wrong, then cut"), head+laid(wrong[:i+1]...)+"\x05", api.ErrArchiveBlock, at)
		faulty(t, fmt.Sprint("too few, cut at ", i), head+laid(blocks[:i]...)+"\x05", api.ErrArchiveShort, places[i]+1)
		faulty(t, fmt.Sprint("too few: ", i), head+laid(blocks[:i]...), api.ErrArchiveLeft, places[i])
	}
}

// TestOtherDigests: a block under a link that holds other bytes, or the same bytes under another version or codec.
func TestOtherDigests(t *testing.T) {
	b, r, x := small()
	old := oldLink("\x01\x02")
	for what, bytes := range map[string]string{"none": "", "one byte less": "\x01", "one byte more": "\x01\x02\x00", "one bit": "\x01\x03", "others": "other", "its digest": r.Digest} {
		faulty(t, what, fileOf(links(r), blockOf(r, bytes)), api.ErrArchiveBlock, 96)
		faulty(t, what+", version 0", fileOf(links(old), blockOf(old, bytes)), api.ErrArchiveBlock, 57+1+34)
	}
	for i := range 32 {
		bent := []byte(b)
		bent[64+i] ^= 1
		faulty(t, fmt.Sprint("digest ", i), string(bent), api.ErrArchiveBlock, 96)
	}
	for what, l := range map[string]api.Link{"another codec": linkIn(7, "\x01\x02"), "version 0": old, "a tree": linkIn(api.CodecTree, "\x01\x02")} {
		wrong := fileOf(links(r), blockOf(l, "\x01\x02"))
		faulty(t, what, wrong, api.ErrArchiveLeft, len(wrong))
		more := fileOf(links(r), inRow(blockOf(l, "\x01\x02"), x)...)
		faulty(t, what+" beside", more, api.ErrArchiveLeft, len(more))
	}
}

// left: Read tells ErrArchiveLeft at the file's end.
func left(t *testing.T, what string, roots []api.Link, blocks ...api.Block) {
	t.Helper()
	b := fileOf(sorted(roots), inRow(blocks...)...)
	faulty(t, what, b, api.ErrArchiveLeft, len(b))
}

// whole: Read takes the file of these roots and blocks.
func whole(t *testing.T, what string, roots []api.Link, blocks ...api.Block) {
	t.Helper()
	roots, blocks = sorted(roots), inRow(blocks...)
	taken(t, what, fileOf(roots, blocks...), roots, blocks...)
}

// TestLeft: blocks too few, too many; those that are no trees; what inline links hold.
func TestLeft(t *testing.T) {
	x, y := rawBlock("x"), blockOf(oldLink("y"), "y")
	mid := treeBlock(listOf(x.Link))
	top := treeBlock(sample.Map("a b", linkOf(mid.Link), sample.List(linkOf(y.Link), linkOf(inline(api.CodecRaw, "z")))))
	whole(t, "all", links(top.Link), x, y, mid, top)
	whole(t, "all, and more roots", links(top.Link, x.Link, y.Link, mid.Link), x, y, mid, top)
	whole(t, "some", links(mid.Link, y.Link), x, y, mid)
	left(t, "x lacks", links(top.Link), y, mid, top)
	left(t, "y lacks", links(top.Link), x, mid, top)
	left(t, "mid lacks", links(top.Link), x, y, top)
	left(t, "top lacks", links(top.Link), x, y, mid)
	left(t, "a root lacks", links(top.Link, linkIn(api.CodecRaw, "lost")), x, y, mid, top)
	left(t, "one more", links(top.Link), x, y, mid, top, rawBlock("more"))
	left(t, "one more, a tree above", links(mid.Link), x, mid, treeBlock(listOf(mid.Link)))
	left(t, "one more, and one lacks", links(top.Link), x, y, top, rawBlock("more"))
	left(t, "one instead of another", links(top.Link), x, mid, top, rawBlock("y"))
	left(t, "nothing", links(top.Link, x.Link))
	left(t, "others alone", links(x.Link), y)
	noTree := blockOf(linkIn(api.CodecTree, "\xff"), "\xff")
	left(t, "no tree", links(noTree.Link), noTree)
	left(t, "no bytes, no tree", links(linkIn(api.CodecTree, "")), blockOf(linkIn(api.CodecTree, ""), ""))
	above := treeBlock(listOf(noTree.Link, x.Link))
	left(t, "no tree in a tree", links(above.Link), noTree, above, x)
	left(t, "no tree in a tree, and it lacks", links(above.Link), above, x)
	form := formOf(listOf(x.Link))
	holder := treeBlock(listOf(inline(api.CodecTree, form), inline(api.CodecRaw, formOf(listOf(y.Link))), inline(api.CodecTree, "\xff")))
	whole(t, "an inline tree", links(holder.Link), holder, x)
	left(t, "an inline tree, x lacks", links(holder.Link), holder)
	left(t, "inline bytes lead nowhere", links(holder.Link), holder, x, y)
	for _, l := range links(linkIn(api.CodecRaw, form), oldLink(form), linkIn(7, form)) {
		whole(t, "no tree's link leads on", links(l), blockOf(l, form))
		left(t, "no tree's link leads on, one more", links(l), blockOf(l, form), x)
	}
	whole(t, "no bytes", links(linkIn(api.CodecRaw, "")), rawBlock(""))
	whole(t, "no bytes, version 0", links(oldLink("")), blockOf(oldLink(""), ""))
	whole(t, "one block under three links", links(linkIn(api.CodecTree, form), linkIn(api.CodecRaw, form), oldLink(form)), treeBlock(listOf(x.Link)), rawBlock(form), blockOf(oldLink(form), form), x)
	deep := treeBlock(sample.Within(linkOf(x.Link), api.MaxDepth, "lm"))
	whole(t, "as deep as may be", links(deep.Link), deep, x)
	tooDeep := blockOf(linkIn(api.CodecTree, "\x81"+string(deep.Bytes)), "\x81"+string(deep.Bytes))
	left(t, "too deep", links(tooDeep.Link), tooDeep)
	left(t, "too deep, with what is in it", links(tooDeep.Link), tooDeep, x)
}

// altered: an archive made another one, by parts, and its bytes; most often it is none any more.
func altered(d *sample.Dice, a api.Archive) string {
	roots, blocks := slices.Clone(a.Roots), slices.Clone(a.Blocks)
	i, j := d.Below(len(blocks)), d.Below(len(blocks))
	switch d.Below(12) {
	case 0:
		blocks = slices.Delete(blocks, i, i+1)
	case 1:
		blocks = slices.Insert(blocks, i, blocks[j])
	case 2:
		blocks[i], blocks[j] = blocks[j], blocks[i]
	case 3:
		blocks = inRow(append(blocks, rawBlock(fmt.Sprint("more ", i)))...)
	case 4:
		blocks[i] = blockOf(blocks[i].Link, string(blocks[i].Bytes)+"x")
	case 5:
		blocks[i].Link = blocks[j].Link
	case 6:
		roots = sorted(append(roots, blocks[i].Link))
	case 7:
		roots = append(roots, blocks[i].Link)
	case 8:
		roots = links(blocks[i].Link)
	case 9:
		blocks[i].Link = inline(api.CodecRaw, "x")
	case 10:
		roots[d.Below(len(roots))] = inline(api.CodecRaw, "x")
	case 11:
		blocks = inRow(append(blocks, treeBlock(listOf(blocks[i].Link)))...)
	}
	return fileOf(roots, blocks...)
}

// bent: bytes made others: some taken out, laid in, or made another one.
func bent(d *sample.Dice, b string) string {
	at := d.Below(len(b))
	to := min(len(b), at+1+d.Below(4)*d.Below(20))
	switch d.Below(5) {
	case 0:
		return b[:at]
	case 1:
		return b[:at] + b[to:]
	case 2:
		return b[:at] + b[at:to] + b[at:]
	case 3:
		return b[:at] + string([]byte{byte(d.Next())}) + b[at+1:]
	}
	return b + b[at:to]
}

// TestAnyFile: files that are right, and such that are nearly.
func TestAnyFile(t *testing.T) {
	told := map[api.Errno]int{}
	for seed := range 800 {
		d := sample.Dice(seed)
		b, a := anyFile(t, &d)
		taken(t, "as it was written", b, a.Roots, a.Blocks...)
		for range 10 {
			_, f := reads(t, altered(&d, a))
			told[f.Code]++
			_, f = reads(t, bent(&d, b))
			told[f.Code]++
			_, f = reads(t, bent(&d, altered(&d, a)))
			told[f.Code]++
		}
	}
	for _, e := range []api.Errno{api.OK, api.ErrArchiveHead, api.ErrArchiveShort, api.ErrArchiveLink, api.ErrArchiveBlock, api.ErrArchiveOrder, api.ErrArchiveLeft} {
		if told[e] < 100 {
			t.Errorf("%d is told %d times: too few to tell", e, told[e])
		}
	}
}
