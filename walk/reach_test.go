package walk

// P18.2 and P18.3: to which links a walk comes, and in which list each is told.

import (
	"fmt"
	"slices"
	"strconv"
	"strings"
	"testing"

	"trellis/api"
	"trellis/link"
	"trellis/sample"
	"trellis/store"
)

// TestReachExamples: the chapter's example 4.
func TestReachExamples(t *testing.T) {
	s, tree, raw, none, key := world(t)
	reached(t, "t", s, links(tree), links(raw, tree), links(none))
	reached(t, "k", s, links(key), links(key, tree, raw), links(none))
	reached(t, "nothing", s, nil, nil, nil)
	reached(t, "a link that holds [&r]", s, links(inline(api.CodecTree, formOf(sample.List(linkOf(raw))))), links(raw), nil)
	if a, b, e := Reach(s); e != api.OK || len(a)+len(b) != 0 {
		t.Errorf("no root: %v, %v, %d", a, b, e)
	}
}

// TestRoots: one root twice, roots that reach each other, roots in any order; what no root reaches is not told.
func TestRoots(t *testing.T) {
	s, tree, raw, none, key := world(t)
	add(s, linkIn(api.CodecRaw, "beside"), "beside")
	other := put(s, sample.List(linkOf(key), linkOf(oldLink("lost"))))
	reached(t, "twice", s, links(raw, raw), links(raw), nil)
	reached(t, "twice, lacking", s, links(none, none, none), nil, links(none))
	reached(t, "twice, with what it reaches", s, links(tree, tree), links(raw, tree), links(none))
	all := links(tree, raw, none, key, other)
	there, lacking := links(tree, raw, key, other), links(none, oldLink("lost"))
	for range 20 {
		all = append(all[1:], all[0])
		reached(t, "each other", s, all, there, lacking)
		reached(t, "each other, twice", s, slices.Concat(all[:3], all, all), there, lacking)
		slices.Reverse(all[:1+len(all)/2])
	}
	reached(t, "one above, one below", s, links(raw, key), links(key, tree, raw), links(none))
	reached(t, "apart", s, links(raw, none), links(raw), links(none))
}

// TestSorts: each sort of link, its block there, lost, or another one: in which list it is told, and whether the links in its block are come to; as a root, and in a tree.
func TestSorts(t *testing.T) {
	inner := linkIn(api.CodecRaw, "inner")
	form := formOf(sample.Map("a b", sample.List(linkOf(inner)), sample.Null()))
	for what, c := range map[string]struct {
		l           api.Link
		b           string
		there, goes bool
	}{
		"a tree": {linkIn(api.CodecTree, form), form, true, true}, "a tree without links": {linkIn(api.CodecTree, "\xf6"), "\xf6", true, false},
		"raw": {linkIn(api.CodecRaw, form), form, true, false}, "raw, no bytes": {linkIn(api.CodecRaw, ""), "", true, false}, "raw, no tree": {linkIn(api.CodecRaw, "\xff"), "\xff", true, false},
		"another codec": {linkIn(7, form), form, true, false}, "codec 0, no tree": {linkIn(0, "\xff"), "\xff", true, false}, "the greatest codec": {linkIn(1<<63-1, form), form, true, false}, "the old codec": {linkIn(api.CodecOld, form), form, true, false},
		"version 0": {oldLink(form), form, true, false}, "version 0, no tree": {oldLink("\xff"), "\xff", true, false}, "version 0, no bytes": {oldLink(""), "", true, false},
		"no tree": {linkIn(api.CodecTree, "\xff"), "\xff", false, false}, "no bytes": {linkIn(api.CodecTree, ""), "", false, false}, "a tree and more": {linkIn(api.CodecTree, form+"\x00"), form + "\x00", false, false},
		"a tree and less": {linkIn(api.CodecTree, form[:len(form)-1]), form[:len(form)-1], false, false}, "not the one form": {linkIn(api.CodecTree, "\xb8\x02"+form[1:]), "\xb8\x02" + form[1:], false, false},
	} {
		s := made(t, 10)
		above := put(s, sample.List(linkOf(c.l)))
		reached(t, what+", lost", s, links(c.l), nil, links(c.l))
		reached(t, what+", lost, in a tree", s, links(above), links(above), links(c.l))
		if e := s.Force(c.l, []byte(formOf(sample.List(linkOf(linkIn(api.CodecRaw, "forced")))))); e != api.OK {
			t.Fatal(e)
		}
		reached(t, what+", another block", s, links(c.l), nil, links(c.l))
		reached(t, what+", another block, in a tree", s, links(above), links(above), links(c.l))
		add(s, c.l, c.b)
		there, lacking := links(c.l), links()
		if !c.there {
			there, lacking = lacking, there
		}
		if c.goes {
			lacking = append(lacking, inner)
		}
		reached(t, what, s, links(c.l), there, lacking)
		reached(t, what+", in a tree", s, links(above), append(there, above), lacking)
	}
}

// TestSameBytes: one block under many links: each is told by itself, by what stands under it alone.
func TestSameBytes(t *testing.T) {
	s := made(t, 10)
	inner := linkIn(api.CodecRaw, "inner")
	form := formOf(sample.List(linkOf(inner)))
	tree, raw, odd, old := linkIn(api.CodecTree, form), linkIn(api.CodecRaw, form), linkIn(7, form), oldLink(form)
	add(s, raw, form)
	add(s, old, form)
	reached(t, "two there", s, links(tree, raw, odd, old), links(raw, old), links(tree, odd))
	add(s, tree, form)
	reached(t, "three there", s, links(tree, raw, odd, old), links(raw, old, tree), links(odd, inner))
	reached(t, "without the tree", s, links(raw, odd, old), links(raw, old), links(odd))
	if e := s.Force(raw, nil); e != api.OK {
		t.Fatal(e)
	}
	reached(t, "one forced", s, links(tree, raw, odd, old), links(old, tree), links(odd, inner, raw))
}

// TestWhereLinksStand: links anywhere in a tree are come to; what only looks like one is not.
func TestWhereLinksStand(t *testing.T) {
	s := made(t, 5000)
	var all []api.Link
	next := func() api.Value {
		l := linkIn(api.CodecRaw, fmt.Sprint(len(all)))
		all = append(all, l)
		return linkOf(l)
	}
	tell := func(what string, root api.Link, there ...api.Link) {
		t.Helper()
		reached(t, what, s, links(root), append(there, root), all)
		all = nil
	}
	tell("the tree itself", put(s, next()))
	tell("a list", put(s, sample.List(next(), sample.Null(), next(), next())))
	tell("a map", put(s, sample.Map("b a cc", next(), next(), next())))
	tell("both", put(s, sample.Map("b a", sample.List(sample.List(next()), next()), sample.Map("z y", sample.List(sample.Map("x", next())), next()))))
	tell("as deep as a tree may be", put(s, sample.Within(next(), api.MaxDepth, "lm")))
	m := map[string]api.Value{}
	for i := range 30 {
		m[strconv.Itoa(i)] = sample.List(next(), sample.Map("a", next()))
	}
	root := laid(t, s, api.Trie{Width: 8, Bucket: 16, Bytes: 1}, m)
	tell("a trie's values", root)
	for i := range 30 {
		m[strconv.Itoa(i)] = sample.List(next())
	}
	on := made(t, 5000)
	root = laid(t, on, api.Trie{Width: 1, Bucket: 1, Bytes: 32}, m)
	there := on.Links()
	if len(there) < 20 {
		t.Fatal(len(there))
	}
	reached(t, "a trie of many nodes", on, links(root), there, all)
	all = nil
	form := formOf(linkOf(linkIn(api.CodecRaw, "x")))
	tell("bytes and texts", put(s, sample.List(octets(form), octets(form[3:]), sample.Text("bafkreihdwdcefgh4dqkjv67uzcmw7ojee6xedzdetojuzjevtenxquvyku"), sample.Map("a", octets(form[4:])))))
}

// TestInline: links that hold their bytes themselves are not told, those in what they hold are come to.
func TestInline(t *testing.T) {
	s := made(t, 10)
	raw := add(s, linkIn(api.CodecRaw, "raw"), "raw")
	lost := oldLink("lost")
	holds := func(l api.Link) api.Link { return inline(api.CodecTree, formOf(sample.List(linkOf(l)))) }
	tree := put(s, sample.List(linkOf(holds(lost)), linkOf(inline(api.CodecRaw, "x"))))
	reached(t, "none", s, links(inline(api.CodecRaw, ""), inline(7, "x"), inline(api.CodecTree, ""), inline(api.CodecTree, "\xff"), inline(api.CodecTree, "\x05"), inline(1<<63-1, "")), nil, nil)
	reached(t, "there", s, links(holds(raw)), links(raw), nil)
	reached(t, "lacking", s, links(holds(lost)), nil, links(lost))
	reached(t, "in a tree", s, links(tree), links(tree), links(lost))
	reached(t, "of a tree", s, links(holds(tree)), links(tree), links(lost))
	reached(t, "twice", s, links(holds(raw), holds(raw), raw, tree), links(raw, tree), links(lost))
	reached(t, "one in the other", s, links(holds(holds(raw)), holds(holds(lost))), links(raw), links(lost))
	form := formOf(sample.List(linkOf(raw)))
	reached(t, "of codecs that hold no links", s, links(inline(api.CodecRaw, form), inline(7, form), inline(api.CodecOld, form)), nil, nil)
	reached(t, "more than a tree", s, links(inline(api.CodecTree, form+"\x00")), nil, nil)
	reached(t, "less than a tree", s, links(inline(api.CodecTree, form[:len(form)-1])), nil, nil)
}

// TestWrongRoots: a root that may not be, beside good ones, at whichever place.
func TestWrongRoots(t *testing.T) {
	s, tree, raw, none, key := world(t)
	good := links(tree, raw, none, key)
	for i, l := range noLinks() {
		for at := range len(good) + 1 {
			if a, b, e := reaches(t, s, slices.Insert(slices.Clone(good), at, l)...); e != api.ErrStoreLink || a != nil || b != nil {
				t.Errorf("%d at %d: %d", i, at, e)
			}
		}
		if _, _, e := reaches(t, s, l); e != api.ErrStoreLink {
			t.Errorf("%d alone: %d", i, e)
		}
		if _, _, e := reaches(t, s, l, noLinks()[0]); e != api.ErrStoreLink {
			t.Errorf("%d and another: %d", i, e)
		}
	}
}

// TestListsOrder: both lists by link.Less: versions, codecs of one byte and of many, hashes' digests.
func TestListsOrder(t *testing.T) {
	s := made(t, 1000)
	var all []api.Link
	codecs := []uint64{0, 1, api.CodecRaw, api.CodecOld, 0x7f, 0x80, 0xff, 0x100, 0x3fff, 0x4000, 1 << 32, 1<<63 - 1}
	for i := range 300 {
		b := strconv.Itoa(i)
		l := oldLink(b)
		if i%5 > 0 {
			l = linkIn(codecs[i%len(codecs)], b)
		}
		all = append(all, l)
		if i%2 == 0 {
			add(s, l, b)
		}
	}
	tree := sample.List()
	for _, l := range all {
		tree.Items = append(tree.Items, linkOf(l))
	}
	for _, roots := range [][]api.Link{all, links(put(s, tree))} {
		there, lacking, e := reaches(t, s, roots...)
		if e != api.OK || len(there) < 150 || len(lacking) != 150 {
			t.Fatal(len(there), len(lacking), e)
		}
		for _, list := range [][]api.Link{there, lacking} {
			for i := 1; i < len(list); i++ {
				if !link.Less(list[i-1], list[i]) {
					t.Fatalf("%v stands ahead of %v", list[i-1], list[i])
				}
			}
		}
	}
}

// rowOf lays a row of so many blocks, each of which names the next one; the last one has some items. All their links, the first one's last.
func rowOf(s *store.Store, n int, items ...api.Value) []api.Link {
	list := links(put(s, sample.List(items...)))
	for len(list) < n {
		list = append(list, put(s, sample.List(linkOf(list[len(list)-1]))))
	}
	return list
}

// tellsJust: Reach tells just these links, of whichever there are too many to be held against the plain reading.
func tellsJust(t *testing.T, what string, s *store.Store, roots, there, lacking []api.Link) {
	t.Helper()
	a, b, e := Reach(s, roots...)
	if e != api.OK || !slices.Equal(a, plainOrder(slices.Clone(there))) || !slices.Equal(b, plainOrder(slices.Clone(lacking))) {
		t.Errorf("%s: %d there, %d lacking, %d; want %d, %d", what, len(a), len(b), e, len(there), len(lacking))
	}
}

// isFull: Reach tells ErrWalkFull and nothing else.
func isFull(t *testing.T, what string, s *store.Store, roots ...api.Link) {
	t.Helper()
	if a, b, e := Reach(s, roots...); e != api.ErrWalkFull || a != nil || b != nil {
		t.Errorf("%s: %d there, %d lacking, %d", what, len(a), len(b), e)
	}
}

// TestLongRow: blocks that name each other in a row as long as a walk may be; one link more at its end, there, lacking, or not told.
func TestLongRow(t *testing.T) {
	s := made(t, api.MaxBlocks)
	lost := oldLink("lost")
	row := rowOf(s, api.MaxReach-1, linkOf(lost), linkOf(inline(api.CodecRaw, "x")))
	first := row[len(row)-1]
	tellsJust(t, "one is lacking", s, links(first), row, links(lost))
	tellsJust(t, "one is lacking, all are roots", s, row, row, links(lost))
	tellsJust(t, "from the midst on", s, links(row[1000]), row[:1001], links(lost))
	isFull(t, "one more", s, first, linkIn(api.CodecRaw, "one more"))
	isFull(t, "one more ahead", s, oldLink("one more"), first)
	add(s, lost, "lost")
	tellsJust(t, "all are there", s, links(first), append(row, lost), nil)
	isFull(t, "all are there, and one more", s, first, linkIn(api.CodecRaw, "lost"))
	middle := row[len(row)/2]
	s.Delete(middle)
	tellsJust(t, "broken in the midst", s, links(first), row[len(row)/2+1:], links(middle))
	tellsJust(t, "broken in the midst, from both ends", s, links(first, row[len(row)/2-1]), slices.Concat(row[len(row)/2+1:], row[:len(row)/2], links(lost)), links(middle))
	above := put(s, sample.List(linkOf(first), linkOf(row[len(row)/2-1])))
	isFull(t, "one more above", s, above)
}

// lostLinks: so many links under which nothing stands.
func lostLinks(n int) []api.Link {
	var list []api.Link
	for i := range n {
		list = append(list, linkIn(uint64(i%3)*api.CodecTree, fmt.Sprint("lost ", i)))
	}
	return list
}

// listOf: a list of links.
func listOf(l []api.Link) api.Value {
	v := sample.List()
	for _, x := range l {
		v.Items = append(v.Items, linkOf(x))
	}
	return v
}

// TestFull: just MaxReach links, and one more: as roots, in one tree, in several; there, lacking, both together.
func TestFull(t *testing.T) {
	s := made(t, api.MaxBlocks)
	lost := lostLinks(api.MaxReach + 1)
	tellsJust(t, "roots", s, lost[1:], nil, lost[1:])
	tellsJust(t, "roots, each twice", s, slices.Concat(lost[1:], lost[1:]), nil, lost[1:])
	isFull(t, "roots and one more", s, lost...)
	isFull(t, "roots and one more, each twice", s, slices.Concat(lost, lost)...)
	most, over := put(s, listOf(lost[2:])), put(s, listOf(lost[1:]))
	tellsJust(t, "in a tree", s, links(most), links(most), lost[2:])
	tellsJust(t, "in a tree, and some as roots", s, slices.Concat(lost[100:200], links(most), lost[2:3]), links(most), lost[2:])
	isFull(t, "in a tree and one more", s, over)
	isFull(t, "in a tree and one more as a root", s, most, lost[0])
	half, other := put(s, listOf(lost[:api.MaxReach/2])), put(s, listOf(lost[100:api.MaxReach-2]))
	tellsJust(t, "in two trees that share some", s, links(half, other), links(half, other), lost[:api.MaxReach-2])
	isFull(t, "in two trees, and the third is one too many", s, half, other, most)
	var there []api.Link
	for i := range api.MaxReach / 2 {
		b := fmt.Sprint("there ", i)
		there = append(there, add(s, linkIn(api.CodecRaw, b), b))
	}
	tellsJust(t, "half there, half lacking", s, slices.Concat(there, lost[:api.MaxReach/2]), there, lost[:api.MaxReach/2])
	isFull(t, "half there, half lacking, one more", s, slices.Concat(there, lost[:api.MaxReach/2+1])...)
	isFull(t, "half lacking, half there, one more", s, slices.Concat(lost[:api.MaxReach/2], there, links(most))...)
	for i, wrong := range noLinks()[:3] {
		for _, roots := range [][]api.Link{slices.Concat(lost, links(wrong)), slices.Concat(links(wrong), lost), links(over, wrong)} {
			if a, b, e := Reach(s, roots...); e != api.ErrStoreLink || a != nil || b != nil {
				t.Errorf("%d: a wrong root counts ahead: %d", i, e)
			}
		}
	}
}

// TestInlineNotCounted: links of HashNone are not counted, however many there are.
func TestInlineNotCounted(t *testing.T) {
	s := made(t, 100)
	lost := lostLinks(api.MaxReach + 1)
	var many []api.Link
	for i := range api.MaxReach + 100 {
		many = append(many, inline(uint64(i%3)*api.CodecTree, strconv.Itoa(i)))
	}
	tellsJust(t, "alone", s, many, nil, nil)
	tellsJust(t, "in a tree", s, links(put(s, listOf(many))), links(put(s, listOf(many))), nil)
	tellsJust(t, "beside as many as may be", s, slices.Concat(many, lost[1:]), nil, lost[1:])
	isFull(t, "beside one more", s, slices.Concat(many, lost)...)
	for i, l := range lost {
		many[i] = inline(api.CodecTree, formOf(linkOf(l)))
	}
	tellsJust(t, "each holds one that is told", s, many[1:len(lost)], nil, lost[1:])
	isFull(t, "each holds one that is told, one more", s, many...)
}

// TestManyWays: few blocks that name each other in more ways than can be gone one by one.
func TestManyWays(t *testing.T) {
	s := made(t, 1000)
	lost := linkIn(api.CodecTree, "lost")
	all := links()
	above := lost
	for range 200 {
		above = put(s, sample.List(linkOf(above), linkOf(above), sample.Map("a", linkOf(above))))
		all = append(all, above)
	}
	tellsJust(t, "each names the next one three times", s, links(above), all, links(lost))
	for range 200 {
		above = put(s, listOf(all))
		all = append(all, above)
	}
	tellsJust(t, "each names all", s, links(above), all, links(lost))
	tellsJust(t, "each names all, all are roots", s, slices.Concat(all, all), all, links(lost))
}

// TestAnyReach: whatever the store and the roots.
func TestAnyReach(t *testing.T) {
	sizes, lost := map[int]int{}, 0
	for seed := range 400 {
		d := sample.Dice(seed)
		s, pool := anyWorld(t, &d)
		for range 6 {
			there, lacking, e := reaches(t, s, anyRoots(&d, pool)...)
			if e != api.OK {
				t.Fatal(e)
			}
			sizes[min(len(there), 8)]++
			lost += len(lacking)
		}
		roots := anyRoots(&d, pool)
		if wrong := noLinks(); len(roots) > 0 {
			roots[d.Below(len(roots))] = wrong[d.Below(len(wrong))]
			if _, _, e := reaches(t, s, roots...); e != api.ErrStoreLink {
				t.Fatal(e)
			}
		}
	}
	for n := range 9 {
		if sizes[n] < 20 {
			t.Errorf("%d are there %d times: too few to tell", n, sizes[n])
		}
	}
	if lost < 500 {
		t.Errorf("%d are lacking: too few to tell", lost)
	}
}

// TestMended: what is told follows what stands: a block that is laid, lost, forced and mended.
func TestMended(t *testing.T) {
	s, tree, raw, none, key := world(t)
	reached(t, "at first", s, links(key), links(key, tree, raw), links(none))
	other := broken(s, raw, api.ErrStoreBad)
	reached(t, "forced", other, links(key), links(key, tree), links(none, raw))
	add(other, raw, "\x01\x02")
	reached(t, "mended", other, links(key), links(key, tree, raw), links(none))
	other.Delete(tree)
	reached(t, "lost", other, links(key), links(key), links(tree))
	reached(t, "the other store is as it was", s, links(key), links(key, tree, raw), links(none))
	long := strings.Repeat("x", 1<<16)
	add(s, linkIn(api.CodecRaw, long), long)
	reached(t, "a block beside", s, links(key), links(key, tree, raw), links(none))
}
