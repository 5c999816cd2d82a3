package archive

// P19.1: what Write tells, and what it refuses.

import (
	"fmt"
	"slices"
	"strings"
	"testing"

	"trellis/api"
	"trellis/sample"
)

// TestWriteExamples: the chapter's examples 1 and 2, the bytes spelt out.
func TestWriteExamples(t *testing.T) {
	s, r, tree := world(t)
	digest := "\xa1\x28\x71\xfe\xe2\x10\xfb\x86\x19\x29\x1e\xae\xa1\x94\x58\x1c\xbd\x25\x31\xe4\xb2\x37\x59\xd2\x25\xf6\x80\x69\x23\xf6\x32\x22"
	one := "\x3a\xa2\x65roots\x81\xd8\x2a\x58\x25\x00\x01\x55\x12\x20" + digest + "\x67version\x01" + "\x26\x01\x55\x12\x20" + digest + "\x01\x02"
	for _, roots := range [][]api.Link{{r}, {r, r}} {
		if b, e := writes(t, s, roots...); e != api.OK || b != one || len(b) != 98 {
			t.Errorf("%v: %x, %d; want %x", roots, b, e, one)
		}
	}
	form := "\x81\xd8\x2a\x58\x25\x00\x01\x55\x12\x20" + digest
	both := "\x3a\xa2\x65roots\x81\xd8\x2a\x58\x25\x00\x01\x71\x12\x20" + tree.Digest + "\x67version\x01" + one[59:] + "\x4e\x01\x71\x12\x20" + tree.Digest + form
	if b, e := writes(t, s, tree); e != api.OK || b != both {
		t.Errorf("t: %x, %d; want %x", b, e, both)
	}
	refuses(t, "r is lost", broken(s, r, api.ErrStoreNone), api.ErrStoreNone, tree)
	refuses(t, "r is another one", broken(s, r, api.ErrStoreBad), api.ErrStoreBad, tree)
	refuses(t, "no root", s, api.ErrArchiveLink)
	if b, e := Write(s, []api.Link{}); b != nil || e != api.ErrArchiveLink {
		t.Errorf("an empty list: %x, %d", b, e)
	}
}

// writesJust: Write tells the file of these roots and blocks, in whatever order they are given here.
func writesJust(t *testing.T, what string, b string, roots []api.Link, blocks ...api.Block) {
	t.Helper()
	if want := fileOf(sorted(roots), inRow(blocks...)...); b != want {
		t.Errorf("%s: %.400x; want %.400x", what, b, want)
	}
}

// TestRootsOrder: roots in any order, however often, that reach each other or do not: one file.
func TestRootsOrder(t *testing.T) {
	s, r, tree := world(t)
	old := blockOf(oldLink("\x01\x02"), "\x01\x02")
	add(s, old.Link, "\x01\x02")
	top := treeBlock(sample.Map("b a", linkOf(tree), linkOf(old.Link)))
	add(s, top.Link, string(top.Bytes))
	raw(s, "beside")
	all := links(r, tree, old.Link, top.Link)
	blocks := []api.Block{rawBlock("\x01\x02"), treeBlock(listOf(r)), old, top}
	for range 20 {
		all = append(all[1:], all[0])
		b, _ := writes(t, s, all...)
		writesJust(t, "all", b, all, blocks...)
		b, _ = writes(t, s, slices.Concat(all[:3], all, all)...)
		writesJust(t, "all, each more than once", b, all, blocks...)
		slices.Reverse(all[:1+len(all)/2])
	}
	b, _ := writes(t, s, top.Link)
	writesJust(t, "one that reaches all", b, links(top.Link), blocks...)
	b, _ = writes(t, s, top.Link, r)
	writesJust(t, "one of them twice reached", b, links(r, top.Link), blocks...)
	b, _ = writes(t, s, old.Link, r)
	writesJust(t, "apart", b, links(r, old.Link), old, rawBlock("\x01\x02"))
}

// TestBlockSorts: blocks of each sort of link; only those that are reached; only trees lead on.
func TestBlockSorts(t *testing.T) {
	s := made(t, 100)
	inner := raw(s, "inner")
	form := formOf(sample.Map("a b", listOf(inner), sample.Null()))
	for what, c := range map[string]struct {
		l    api.Link
		b    string
		goes bool
	}{
		"a tree": {linkIn(api.CodecTree, form), form, true}, "a tree without links": {linkIn(api.CodecTree, "\xf6"), "\xf6", false},
		"raw": {linkIn(api.CodecRaw, form), form, false}, "raw, no bytes": {linkIn(api.CodecRaw, ""), "", false}, "raw, no tree": {linkIn(api.CodecRaw, "\xff"), "\xff", false},
		"version 0": {oldLink(form), form, false}, "version 0, no bytes": {oldLink(""), "", false}, "the old codec": {linkIn(api.CodecOld, form), form, false},
		"codec 0, no bytes": {linkIn(0, ""), "", false}, "a codec of two bytes": {linkIn(0x80, form), form, false}, "the greatest codec": {linkIn(1<<63-1, form), form, false},
		"long": {linkIn(api.CodecRaw, strings.Repeat("x", 70000)), strings.Repeat("x", 70000), false}, "of 91 bytes": {linkIn(api.CodecRaw, strings.Repeat("y", 91)), strings.Repeat("y", 91), false}, "of 92 bytes": {linkIn(api.CodecRaw, strings.Repeat("y", 92)), strings.Repeat("y", 92), false},
	} {
		add(s, c.l, c.b)
		above := treeBlock(sample.List(sample.Null(), linkOf(c.l)))
		add(s, above.Link, string(above.Bytes))
		blocks := []api.Block{blockOf(c.l, c.b)}
		if c.goes {
			blocks = append(blocks, rawBlock("inner"))
		}
		b, _ := writes(t, s, c.l)
		writesJust(t, what, b, links(c.l), blocks...)
		b, _ = writes(t, s, above.Link)
		writesJust(t, what+", in a tree", b, links(above.Link), append(blocks, above)...)
		s.Delete(above.Link)
	}
}

// TestInlineInTrees: links of HashNone have no block in a file; what stands in those of trees is reached.
func TestInlineInTrees(t *testing.T) {
	s := made(t, 100)
	one := rawBlock("one")
	raw(s, "one")
	holder := inline(api.CodecTree, formOf(listOf(one.Link)))
	tree := treeBlock(listOf(inline(api.CodecRaw, "x"), holder, inline(api.CodecTree, "\xff"), inline(api.CodecRaw, formOf(listOf(linkIn(api.CodecRaw, "lost"))))))
	add(s, tree.Link, string(tree.Bytes))
	b, _ := writes(t, s, tree.Link)
	writesJust(t, "a tree of inline links", b, links(tree.Link), tree, one)
	refuses(t, "what stands in an inline link is lost", broken(s, one.Link, api.ErrStoreNone), api.ErrStoreNone, tree.Link)
	refuses(t, "an inline root", s, api.ErrArchiveLink, holder)
	refuses(t, "an inline root behind a good one", s, api.ErrArchiveLink, tree.Link, holder)
}

// TestWrongRoots: a root that may not be, or is of HashNone, beside good ones, at whichever place; ahead of all that the walk refuses.
func TestWrongRoots(t *testing.T) {
	s, r, tree := world(t)
	lost := linkIn(api.CodecTree, "lost")
	for i, l := range append(noLinks(), inline(api.CodecRaw, ""), inline(api.CodecTree, "\xf6"), inline(7, strings.Repeat("x", api.MaxInline))) {
		refuses(t, fmt.Sprint(i), s, api.ErrArchiveLink, l)
		for _, good := range [][]api.Link{{r, tree}, {r, lost}, {lost, linkIn(api.CodecRaw, "lost")}} {
			for at := range len(good) + 1 {
				refuses(t, fmt.Sprint(i, at), s, api.ErrArchiveLink, slices.Insert(slices.Clone(good), at, l)...)
			}
		}
	}
}

// TestLacking: of several blocks that are lacking for unlike reasons the least one's counts, wherever it is found.
func TestLacking(t *testing.T) {
	s := made(t, 100)
	lost, bad := linkIn(api.CodecTree, "lost"), linkIn(api.CodecTree, "bad")
	noTree := add(s, linkIn(api.CodecTree, "\xff"), "\xff")
	if e := s.Force(bad, []byte("other")); e != api.OK {
		t.Fatal(e)
	}
	refuses(t, "lost", s, api.ErrStoreNone, lost)
	refuses(t, "another one", s, api.ErrStoreBad, bad)
	refuses(t, "no tree", s, api.ErrWalkBlock, noTree)
	why := map[api.Link]api.Errno{lost: api.ErrStoreNone, bad: api.ErrStoreBad, noTree: api.ErrWalkBlock}
	all := links(lost, bad, noTree)
	for i := range 6 {
		v := slices.Clone(all)
		if i >= 3 {
			slices.Reverse(v)
		}
		v = append(v[i%3:], v[:i%3]...)
		for n := 1; n <= 3; n++ {
			want := why[sorted(v[:n])[0]]
			refuses(t, fmt.Sprint(v[:n]), s, want, v[:n]...)
			refuses(t, fmt.Sprint("in a tree ", v[:n]), s, want, put(s, listOf(v[:n]...)))
			refuses(t, fmt.Sprint("in trees ", v[:n]), s, want, put(s, sample.List(linkOf(put(s, listOf(v[:n]...))), linkOf(raw(s, "x")))), v[0])
		}
	}
	for what, l := range map[string]api.Link{"raw": linkIn(api.CodecRaw, "lost"), "the least codec": linkIn(0, "lost")} {
		refuses(t, what+" stands ahead of all trees", s, api.ErrStoreNone, append(links(noTree, bad), l)...)
	}
	for what, l := range map[string]api.Link{"the greatest codec": linkIn(1<<63-1, "lost"), "version 0": oldLink("lost")} {
		refuses(t, what+" stands behind all trees", s, api.ErrWalkBlock, l, noTree)
		refuses(t, what+" stands behind all trees", s, api.ErrStoreBad, bad, l)
	}
	for what, b := range map[string]string{"no bytes": "", "a tree and more": "\xf6\x00", "a tree and less": "\x81", "not the one form": "\x18\x01"} {
		refuses(t, what, s, api.ErrWalkBlock, add(s, linkIn(api.CodecTree, b), b))
		raw(s, b)
		if _, e := writes(t, s, linkIn(api.CodecRaw, b)); e != api.OK {
			t.Errorf("%s, raw: %d", what, e)
		}
	}
}

// TestAnyWrite: whatever the store and the roots.
func TestAnyWrite(t *testing.T) {
	told := map[api.Errno]int{}
	for seed := range 600 {
		d := sample.Dice(seed)
		s, pool := anyWorld(t, &d)
		for range 5 {
			_, e := writes(t, s, anyRoots(&d, pool)...)
			told[e]++
		}
		for range 3 {
			if l := s.Links(); len(l) > 0 {
				s = broken(s, l[d.Below(len(l))], []api.Errno{api.ErrStoreNone, api.ErrStoreBad}[d.Below(2)])
			}
			form := formOf(listOf(pool[d.Below(len(pool))])) + "\x00"
			pool = append(pool, add(s, linkIn(api.CodecTree, form), form))
			pool = append(pool, put(s, listOf(pool[d.Below(len(pool))], pool[d.Below(len(pool))])))
			_, e := writes(t, s, anyRoots(&d, pool)...)
			told[e]++
			wrong := append(noLinks(), inline(api.CodecRaw, "x"))
			_, e = writes(t, s, append(anyRoots(&d, pool), wrong[d.Below(len(wrong))])...)
			told[e]++
		}
	}
	for _, e := range []api.Errno{api.OK, api.ErrArchiveLink, api.ErrStoreNone, api.ErrStoreBad, api.ErrWalkBlock} {
		if told[e] < 100 {
			t.Errorf("%d is told %d times: too few to tell", e, told[e])
		}
	}
}
