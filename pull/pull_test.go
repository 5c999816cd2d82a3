package pull

// P20.1: what Pull lays, and what it refuses.

import (
	"fmt"
	"math"
	"slices"
	"testing"

	"trellis/api"
	"trellis/sample"
)

// TestExamples: the chapter's examples.
func TestExamples(t *testing.T) {
	from, r, n, top, key := world(t)
	to := made(t, 2)
	lays(t, "r", to, from, 1, r)
	lays(t, "r again", to, from, 0, r)
	lays(t, "no root", to, from, 0)
	for _, workers := range []int{0, 9} {
		if n, e := Pull(to, from, links(r), workers); n != 0 || e != api.ErrPullPlan {
			t.Errorf("%d workers: %d, %d", workers, n, e)
		}
	}
	refuses(t, "t, n is lacking", to, from, api.ErrStoreNone, top)
	refuses(t, "k, n is lacking", to, from, api.ErrStoreNone, key)
	if l := to.Links(); !slices.Equal(l, links(r)) {
		t.Errorf("r alone should stand: %v", l)
	}
	stand(from, n, "\xf6")
	small, big := made(t, 2), made(t, 3)
	refuses(t, "room for two", small, from, api.ErrStoreFull, top)
	if small.Len() != 0 {
		t.Errorf("%d blocks", small.Len())
	}
	lays(t, "room for three", big, from, 3, top)
	refuses(t, "k, and room for three", big, from, api.ErrStoreFull, key)
	lays(t, "k", made(t, 4), from, 4, key)
	if e := to.Force(r, []byte{9}); e != api.OK {
		t.Fatal(e)
	}
	lays(t, "r is another one", to, from, 1, r)
	if b, e := to.Get(r); e != api.OK || string(b) != "\x01\x02" {
		t.Errorf("r: %x, %d", b, e)
	}
}

// TestWorkers: numbers of workers that may be, and those that may not, ahead of all else that is refused.
func TestWorkers(t *testing.T) {
	from, all := family(t)
	lost := under(api.CodecTree, "lost")
	for _, workers := range []int{0, -1, -8, api.MaxWorkers + 1, 100, 1 << 32, 1<<32 + 1, math.MaxInt, math.MinInt} {
		for i, roots := range [][]api.Link{nil, all, links(api.Link{}), links(lost), links(lost, api.Link{})} {
			to := made(t, 1)
			was, other := standing(from), standing(to)
			if n, e := Pull(to, from, roots, workers); n != 0 || e != api.ErrPullPlan || standing(from) != was || standing(to) != other {
				t.Errorf("%d workers, %d: %d, %d", workers, i, n, e)
			}
		}
	}
	for workers := 1; workers <= api.MaxWorkers; workers++ {
		to := made(t, 4)
		if n, e := Pull(to, from, all[3:], workers); n != 4 || e != api.OK || to.Len() != 4 {
			t.Errorf("%d workers: %d, %d", workers, n, e)
		}
	}
}

// TestRoots: no root, one, one twice, many, such as reach each other, in any order; what no root reaches stays behind.
func TestRoots(t *testing.T) {
	from, all := family(t)
	beside := raw(from, "beside")
	lays(t, "none", made(t, 1), from, 0)
	lays(t, "none, into itself", from, from, 0)
	lays(t, "one block", made(t, 1), from, 1, all[0])
	lays(t, "one block, twice", made(t, 1), from, 1, all[0], all[0])
	lays(t, "apart", made(t, 2), from, 2, all[1], all[0])
	lays(t, "a tree", made(t, 3), from, 3, all[2])
	lays(t, "a tree, and what it reaches", made(t, 3), from, 3, all[0], all[2], all[1])
	for range 8 {
		all = append(all[1:], all[0])
		to := made(t, 9)
		lays(t, "all", to, from, 4, all...)
		lays(t, "all, each twice", to, from, 0, slices.Concat(all, all)...)
		if to.Has(beside) {
			t.Errorf("what no root reaches has come")
		}
		slices.Reverse(all[:2])
	}
	some := many(t, made(t, 100), 100)
	sum := made(t, 200)
	many(t, sum, 100)
	lays(t, "many", made(t, 100), sum, 100, some...)
	lays(t, "as many as workers", made(t, 8), sum, api.MaxWorkers, some[:api.MaxWorkers]...)
}

// TestSorts: blocks under each sort of link; only those of trees lead on; links of HashNone have no block, what they hold leads on.
func TestSorts(t *testing.T) {
	from := made(t, 100)
	inner := raw(from, "inner")
	leads := form(naming(links(inner)))
	for what, c := range map[string]struct {
		l api.Link
		b string
		n int
	}{
		"a tree": {under(api.CodecTree, leads), leads, 2}, "a tree without links": {under(api.CodecTree, "\xf6"), "\xf6", 1},
		"raw": {under(api.CodecRaw, leads), leads, 1}, "no bytes": {under(api.CodecRaw, ""), "", 1}, "raw, no tree": {under(api.CodecRaw, "\xff"), "\xff", 1},
		"version 0": {old(leads), leads, 1}, "the old codec": {under(api.CodecOld, leads), leads, 1}, "codec 0": {under(0, "\xff"), "\xff", 1}, "the greatest codec": {under(1<<63-1, leads), leads, 1},
	} {
		stand(from, c.l, c.b)
		lays(t, what, made(t, c.n), from, c.n, c.l)
		lays(t, what+", in a tree", made(t, c.n+1), from, c.n+1, tree(from, naming(links(c.l))))
	}
	holds := itself(api.CodecTree, leads)
	lays(t, "a link that holds a tree", made(t, 1), from, 1, holds)
	lays(t, "one in a tree", made(t, 2), from, 2, tree(from, naming(links(holds, itself(api.CodecRaw, "x")))))
	lays(t, "links that hold no tree", made(t, 1), from, 0, itself(api.CodecRaw, leads), itself(api.CodecTree, "\xff"), itself(7, ""))
}

// TestWrongRoots: a root that may not be, at whichever place, ahead of all that is lacking, of too many links and of no room.
func TestWrongRoots(t *testing.T) {
	from, all := family(t)
	full := made(t, 1)
	raw(full, "beside")
	lost := under(api.CodecRaw, "lost")
	for i, wrong := range wrongLinks() {
		refuses(t, fmt.Sprint(i), made(t, 9), from, api.ErrStoreLink, wrong)
		refuses(t, fmt.Sprint(i, " into itself"), from, from, api.ErrStoreLink, wrong)
		for _, good := range [][]api.Link{all, {lost}, {all[3], lost}} {
			for at := range len(good) + 1 {
				refuses(t, fmt.Sprint(i, " at ", at), full, from, api.ErrStoreLink, slices.Insert(slices.Clone(good), at, wrong)...)
			}
		}
	}
}

// TestLacking: blocks that are lost, that were forced, that are no trees, one and several of them at once, as roots and in trees: the least one's error counts, even where there is no room.
func TestLacking(t *testing.T) {
	from, all := family(t)
	lost, bad := under(api.CodecTree, "lost"), under(api.CodecTree, "bad")
	noTree := stand(from, under(api.CodecTree, "\xf6\xf6"), "\xf6\xf6")
	force(from, bad)
	full := made(t, 1)
	raw(full, "beside")
	why := map[api.Link]api.Errno{
		lost: api.ErrStoreNone, bad: api.ErrStoreBad, noTree: api.ErrWalkBlock,
		under(0, "first"): api.ErrStoreNone, under(1<<63-1, "late"): api.ErrStoreNone, old("last"): api.ErrStoreNone,
	}
	wrong := made(t, 9)
	for l := range why {
		force(wrong, l)
	}
	// By link.Less, so that the first one of some of them is the least.
	sorted := wrong.Links()
	for which := 1; which < 1<<len(sorted); which++ {
		var some []api.Link
		for i, l := range sorted {
			if which>>i&1 > 0 {
				some = append(some, l)
			}
		}
		want := why[some[0]]
		slices.Reverse(some)
		what := fmt.Sprintf("%b", which)
		refuses(t, what, full, from, want, some...)
		refuses(t, what+", and others", full, from, want, slices.Concat(all, some)...)
		s := from.Copy()
		refuses(t, what+", in a tree", full, s, want, tree(s, naming(all, some...)))
		refuses(t, what+", into itself", s, s, want, some...)
	}
	for what, b := range map[string]string{"no bytes": "", "a tree and less": "\x81", "not the one form": "\x18\x01"} {
		refuses(t, what, made(t, 9), from, api.ErrWalkBlock, stand(from, under(api.CodecTree, b), b))
		lays(t, what+", raw", made(t, 9), from, 1, raw(from, b))
	}
}

// TestLackingThere: what is lacking in the first store is not looked for in the other one.
func TestLackingThere(t *testing.T) {
	from, all := family(t)
	to := from.Copy()
	from.Delete(all[0])
	refuses(t, "lost", to, from, api.ErrStoreNone, all[3])
	force(from, all[0])
	refuses(t, "forced", to, from, api.ErrStoreBad, all[3])
	lays(t, "the other way", from, to, 1, all[3])
	lays(t, "it is mended", to, from, 0, all[3])
}

// TestAnew: of some blocks some stand in the other store already, some do not, under some others stand.
func TestAnew(t *testing.T) {
	from, all := family(t)
	for which := range 81 {
		to, anew := made(t, 5), 0
		raw(to, "beside")
		for i, l := range all {
			switch which / []int{1, 3, 9, 27}[i] % 3 {
			case 0:
				anew++
			case 1:
				b, _ := from.Get(l)
				stand(to, l, string(b))
			default:
				anew++
				force(to, l)
			}
		}
		lays(t, fmt.Sprint(which), to, from, anew, all[3])
		lays(t, fmt.Sprint(which, " again"), to, from, 0, all[3])
	}
}

// TestRoom: just the room that is wanted, and one less; what stands already, right or not, takes none.
func TestRoom(t *testing.T) {
	from, all := family(t)
	for room := 1; room <= 5; room++ {
		to := made(t, room)
		if room < 4 {
			refuses(t, fmt.Sprint("room for ", room), to, from, api.ErrStoreFull, all[3])
		} else {
			lays(t, fmt.Sprint("room for ", room), to, from, 4, all[3])
		}
		to = made(t, room)
		raw(to, "beside")
		if room < 5 {
			refuses(t, fmt.Sprint("something beside, and room for ", room), to, from, api.ErrStoreFull, all[3])
		} else {
			lays(t, fmt.Sprint("something beside, and room for ", room), to, from, 4, all[3])
		}
	}
	to := made(t, 4)
	raw(to, "beside")
	force(to, all[1])
	refuses(t, "one was forced, one is too many", to, from, api.ErrStoreFull, all[3])
	if _, e := to.Get(all[1]); e != api.ErrStoreBad {
		t.Errorf("what was forced is mended beside an error: %d", e)
	}
	lays(t, "some of them", to, from, 3, all[2])
	lays(t, "what stands, in a full store", to, from, 0, all[2])
	refuses(t, "one more, in a full store", to, from, api.ErrStoreFull, all[3])
}

// TestItself: a store into itself, whatever stands there.
func TestItself(t *testing.T) {
	s, all := family(t)
	lays(t, "all", s, s, 0, all...)
	full := made(t, 1)
	lays(t, "a full one", full, full, 0, raw(full, "x"))
	refuses(t, "a full one, a block is lost", full, full, api.ErrStoreNone, under(api.CodecRaw, "lost"))
	s.Delete(all[0])
	refuses(t, "a block is lost", s, s, api.ErrStoreNone, all[3])
	force(s, all[0])
	refuses(t, "a block was forced", s, s, api.ErrStoreBad, all[3])
	lays(t, "a block was forced that no root reaches", s, s, 0, all[1])
}

// TestVeryMany: as many blocks as a walk may come to, as roots, in one tree, in a row; and one more.
func TestVeryMany(t *testing.T) {
	from := made(t, api.MaxBlocks)
	all := many(t, from, api.MaxBlocks-1)
	top := tree(from, naming(all))
	whole, less := made(t, api.MaxBlocks), made(t, api.MaxBlocks-1)
	great(t, "a tree", whole, from, links(top), api.MaxBlocks, api.OK, api.MaxBlocks)
	great(t, "a tree, and no room for the last one", less, from, links(top), 0, api.ErrStoreFull, 0)
	great(t, "roots", less, from, all, api.MaxBlocks-1, api.OK, api.MaxBlocks-1)
	great(t, "one more, which is lacking", whole, from, links(old("lost"), top), 0, api.ErrWalkFull, 0)
	great(t, "too many, a wrong root", whole, from, links(old("lost"), top, api.Link{}), 0, api.ErrStoreLink, 0)
	from.Delete(all[0])
	great(t, "one is lost", whole, from, links(top), 0, api.ErrStoreNone, 0)
	from = made(t, api.MaxBlocks)
	long := row(from, 20000)
	great(t, "a row", made(t, 20000), from, long[19999:], 20000, api.OK, 20000)
	great(t, "a row, and all of it is there", from, from, long[19999:], 0, api.OK, 20000)
	from.Delete(long[0])
	great(t, "a row whose end is lost", made(t, 20000), from, long[19999:], 0, api.ErrStoreNone, 0)
}

// TestManyLacking: very many blocks that are lacking, for unlike reasons.
func TestManyLacking(t *testing.T) {
	from := made(t, api.MaxBlocks)
	var all []api.Link
	for i := range 20000 {
		l := under(api.CodecTree, fmt.Sprint("lost ", i))
		all = append(all, l)
		if i%2 > 0 {
			force(from, l)
		}
	}
	want, first := api.ErrStoreNone, slices.MinFunc(all, func(a, b api.Link) int {
		return slices.Compare([]byte(a.Digest), []byte(b.Digest))
	})
	if from.Has(first) {
		want = api.ErrStoreBad
	}
	great(t, "as roots", made(t, 1), from, all, 0, want, 0)
	great(t, "in a tree", made(t, 1), from, links(tree(from, naming(all))), 0, want, 0)
}

// TestLongBlocks: blocks of as many bytes as they may have, among short ones.
func TestLongBlocks(t *testing.T) {
	from := made(t, 10)
	long, e := from.Put(api.CodecRaw, make([]byte, api.MaxBlock))
	if e != api.OK {
		t.Fatal(e)
	}
	all := append(many(t, from, 5), long)
	to := made(t, 7)
	if n, e := Pull(to, from, links(tree(from, naming(all))), 3); n != 7 || e != api.OK || to.Size() != from.Size() {
		t.Errorf("%d, %d; %d bytes", n, e, to.Size())
	}
}

// TestAny: whatever the stores and the roots.
func TestAny(t *testing.T) {
	told, part := map[api.Errno]int{}, 0
	for seed := range 400 {
		d := sample.Dice(seed)
		from, pool := anyWorld(t, &d)
		for range 4 {
			s := from.Copy()
			more := spoil(&d, s, slices.Clone(pool))
			to := anyTo(t, &d, s)
			roots := anyRoots(&d, more)
			if d.Below(20) == 0 {
				roots = append(roots, wrongLinks()[d.Below(len(wrongLinks()))])
			}
			if d.Below(9) == 0 {
				to = s
			}
			n, e := pulls(t, to, s, roots...)
			told[e]++
			if n > 0 && n < to.Len() {
				part++
			}
		}
	}
	for _, e := range []api.Errno{api.OK, api.ErrStoreLink, api.ErrStoreNone, api.ErrStoreBad, api.ErrWalkBlock, api.ErrStoreFull} {
		if told[e] < 50 {
			t.Errorf("%d is told %d times: too few to tell", e, told[e])
		}
	}
	if part < 100 {
		t.Errorf("%d times some blocks came: too few to tell", part)
	}
}
