package depot

// P21.2: merges, and their bases.

import (
	"fmt"
	"slices"
	"testing"

	"trellis/api"
	"trellis/link"
	"trellis/store"
	"trellis/trie"
)

// parted: a depot with the heads a and b, which have one commit in common, and have both gone on: a has x 1, y 2, u 5, b has x 1, y 3, v 6.
func parted(t *testing.T) *Depot {
	t.Helper()
	d := made(t, 5000)
	changes(t, d, "a", set("a", "x", 1), set("a", "y", 1))
	changes(t, d, "b", branch("b", "a"))
	changes(t, d, "a", set("a", "y", 2), set("a", "u", 5))
	changes(t, d, "b", set("b", "y", 3), set("b", "v", 6))
	return d
}

// TestMerge: a merge by each key's three values; clashes by neither, by Ours, by Theirs; the new commit names both.
func TestMerge(t *testing.T) {
	for what, want := range map[string]uint64{"ours": 2, "theirs": 3} {
		d := parted(t)
		a, b := headOf(t, d, "a"), headOf(t, d, "b")
		refuses(t, d, api.ErrDepotClash, merge("a", "b"))
		refuses(t, d, api.ErrDepotClash, set("a", "w", 1), merge("a", "b"), drop("none"))
		if what == "ours" {
			changes(t, d, "a", ours("a", "b"))
		} else {
			changes(t, d, "a", theirs("a", "b"))
		}
		is(t, d, "a", "x", 1, true)
		is(t, d, "a", "y", want, true)
		is(t, d, "a", "u", 5, true)
		is(t, d, "a", "v", 6, true)
		if c := top(t, d, "a"); c.At != 3 || !slices.Equal(c.From, []api.Link{a, b}) || headOf(t, d, "b") != b {
			t.Errorf("%+v", c)
		}
		for _, op := range []api.Op{merge("a", "b"), ours("a", "b"), theirs("a", "b")} {
			changes(t, d, "", op)
		}
		// The other way round b becomes what a is, with a commit of its own.
		changes(t, d, "b", merge("b", "a"))
		if c := top(t, d, "b"); c.Root != top(t, d, "a").Root || !slices.Equal(c.From, []api.Link{b, headOf(t, d, "a")}) || c.At != 4 {
			t.Errorf("%+v", c)
		}
	}
	d := parted(t)
	changes(t, d, "b", set("b", "y", 2))
	changes(t, d, "a", merge("a", "b"))
	is(t, d, "a", "y", 2, true)
}

// TestMergeOwn: with its own head, with an ancestor, with one that is ahead of it.
func TestMergeOwn(t *testing.T) {
	d := made(t, 1000)
	changes(t, d, "main", set("main", "k", 1))
	changes(t, d, "old", branch("old", "main"))
	changes(t, d, "main", set("main", "k", 2))
	changes(t, d, "main", set("main", "k", 3))
	for _, other := range []string{"main", "old"} {
		changes(t, d, "", merge("main", other))
		changes(t, d, "", ours("main", other), theirs("main", other))
		changes(t, d, "main", set("main", "l", 4), merge("main", other))
		if c := top(t, d, "main"); len(c.From) != 1 {
			t.Errorf("%+v", c)
		}
		changes(t, d, "main", del("main", "l"))
	}
	changes(t, d, "", branch("x", "main"), merge("x", "main"), drop("x"))
	// The other head has gone on: the merge has its map, and a commit that names both.
	was := headOf(t, d, "old")
	changes(t, d, "old", merge("old", "main"))
	if c := top(t, d, "old"); c.Root != top(t, d, "main").Root || !slices.Equal(c.From, []api.Link{was, headOf(t, d, "main")}) {
		t.Errorf("%+v", c)
	}
}

// TestMergeAhead: the other head as it was ahead of the Do, whatever became of it; heads that are not there, or were not.
func TestMergeAhead(t *testing.T) {
	d := made(t, 1000)
	changes(t, d, "a b", set("a", "x", 1), set("b", "y", 1))
	x := twin(d)
	changes(t, x, "a b", set("b", "y", 2), merge("a", "b"))
	is(t, x, "a", "y", 1, true)
	is(t, x, "b", "y", 2, true)
	x = twin(d)
	changes(t, x, "a b", drop("b"), merge("a", "b"))
	is(t, x, "a", "y", 1, true)
	x = twin(d)
	changes(t, x, "a b", drop("b"), set("b", "z", 1), merge("a", "b"))
	if text := entries(t, x, "a"); text != `"x" 01, "y" 01` {
		t.Errorf("%s", text)
	}
	refuses(t, d, api.ErrDepotHead, merge("a", "none"))
	refuses(t, d, api.ErrDepotHead, merge("none", "a"))
	refuses(t, d, api.ErrDepotHead, merge("none", "none"))
	refuses(t, d, api.ErrDepotHead, set("c", "k", 1), merge("a", "c"))
	refuses(t, d, api.ErrDepotHead, branch("c", "b"), merge("a", "c"))
	refuses(t, d, api.ErrDepotHead, drop("a"), merge("a", "b"))
	refuses(t, d, api.ErrDepotHead, drop("a"), merge("b", "a"), merge("a", "b"))
	changes(t, d, "c", branch("c", "a"), merge("c", "b"))
	if c := top(t, d, "c"); c.At != 2 || !slices.Equal(c.From, []api.Link{headOf(t, d, "a"), headOf(t, d, "b")}) {
		t.Errorf("a branch that was merged at once: %+v", c)
	}
	// Its own name, where the head was dropped and made again, or was changed.
	old := headOf(t, d, "a")
	changes(t, d, "a", drop("a"), set("a", "z", 1), merge("a", "a"))
	if c := top(t, d, "a"); !slices.Equal(c.From, []api.Link{old}) || entries(t, d, "a") != `"x" 01, "z" 01` {
		t.Errorf("%+v", c)
	}
}

// TestMergeNew: into a head that was made in this Do, which follows nothing yet.
func TestMergeNew(t *testing.T) {
	d := made(t, 1000)
	changes(t, d, "a", set("a", "x", 1))
	changes(t, d, "a", set("a", "y", 2))
	changes(t, d, "new", set("new", "z", 3), merge("new", "a"))
	if c := top(t, d, "new"); c.At != 3 || !slices.Equal(c.From, []api.Link{headOf(t, d, "a")}) || entries(t, d, "new") != `"x" 01, "y" 02, "z" 03` {
		t.Errorf("%+v", c)
	}
	// What it lays is what a has; still it follows a.
	changes(t, d, "like", set("like", "x", 1), merge("like", "a"))
	if c := top(t, d, "like"); c.Root != top(t, d, "a").Root || len(c.From) != 1 || c.At != 3 {
		t.Errorf("%+v", c)
	}
	changes(t, d, "", merge("like", "a"))
	refuses(t, d, api.ErrDepotClash, set("x", "x", 2), merge("x", "a"))
}

// TestMergeNoBase: two heads that have no commit in common: the base is the empty map.
func TestMergeNoBase(t *testing.T) {
	d := made(t, 1000)
	changes(t, d, "a b", set("a", "x", 1), set("a", "y", 2), set("b", "y", 2), set("b", "z", 3))
	changes(t, d, "c", set("c", "y", 9))
	refuses(t, d, api.ErrDepotClash, merge("a", "c"))
	changes(t, d, "a", merge("a", "b"))
	if text := entries(t, d, "a"); text != `"x" 01, "y" 02, "z" 03` {
		t.Errorf("%s", text)
	}
	changes(t, d, "a", ours("a", "c"))
	is(t, d, "a", "y", 2, true)
	changes(t, d, "b", theirs("b", "c"))
	is(t, d, "b", "y", 9, true)
}

// TestMergeWidths: heads of other widths than the depot's: among themselves they are merged, over an empty map of their own widths; with others they are not.
func TestMergeWidths(t *testing.T) {
	d, other := made(t, 1000), madeOf(t, 1000, narrow, 1)
	changes(t, d, "main", set("main", "w", 1))
	changes(t, other, "a b", set("a", "x", 1), set("b", "y", 1))
	for _, name := range []string{"a", "b"} {
		if _, e := fetches(t, d, other, name, name, 1); e != api.OK {
			t.Fatal(e)
		}
	}
	refuses(t, d, api.ErrChangeConfig, merge("main", "a"))
	refuses(t, d, api.ErrChangeConfig, merge("a", "main"))
	changes(t, d, "a", merge("a", "b"))
	changes(t, d, "a", set("a", "z", 1))
	if c, e := trie.Widths(d.Store(), top(t, d, "a").Root); c != narrow || e != api.OK || entries(t, d, "a") != `"x" 01, "y" 01, "z" 01` {
		t.Errorf("%v, %d", c, e)
	}
}

// TestMergeTwice: several merges in one Do: of one head with one, with two; each counts with what the ones ahead have brought.
func TestMergeTwice(t *testing.T) {
	d := made(t, 1000)
	changes(t, d, "a b c", set("a", "x", 1), set("b", "y", 2), set("c", "z", 3))
	a, b, c := headOf(t, d, "a"), headOf(t, d, "b"), headOf(t, d, "c")
	x := twin(d)
	changes(t, x, "a", merge("a", "b"), merge("a", "b"), theirs("a", "b"))
	if l := top(t, x, "a").From; !slices.Equal(l, []api.Link{a, b}) {
		t.Errorf("%v", l)
	}
	x = twin(d)
	changes(t, x, "a", merge("a", "b"), set("a", "y", 5), merge("a", "c"), merge("a", "a"), merge("a", "b"))
	if l := top(t, x, "a"); !slices.Equal(l.From, []api.Link{a, b, c}) || l.At != 2 || entries(t, x, "a") != `"x" 01, "y" 05, "z" 03` {
		t.Errorf("%+v: %s", l, entries(t, x, "a"))
	}
	x = twin(d)
	changes(t, x, "a b", merge("a", "b"), merge("b", "a"))
	if l, m := top(t, x, "a"), top(t, x, "b"); l.Root != m.Root || !slices.Equal(l.From, []api.Link{a, b}) || !slices.Equal(m.From, []api.Link{b, a}) {
		t.Errorf("%+v, %+v", l, m)
	}
	changes(t, x, "a", merge("a", "b"))
	if l := top(t, x, "a"); l.At != 3 || len(l.From) != 2 {
		t.Errorf("%+v", l)
	}
	x = twin(d)
	changes(t, x, "a", merge("a", "b"), drop("a"), branch("a", "c"), merge("a", "b"))
	if l := top(t, x, "a").From; !slices.Equal(l, []api.Link{c, b}) {
		t.Errorf("%v", l)
	}
}

// TestMergeMany: as many parents as a commit may have, which is then read.
func TestMergeMany(t *testing.T) {
	d := made(t, 5000)
	changes(t, d, "main", set("main", "k", 1))
	var ops []api.Op
	for i := range api.MaxHeads - 1 {
		changes(t, d, fmt.Sprint(i), set(fmt.Sprint(i), fmt.Sprint("key", i), uint64(i)))
		ops = append(ops, merge("main", fmt.Sprint(i)))
	}
	changes(t, d, "main", ops...)
	if c := top(t, d, "main"); len(c.From) != api.MaxHeads {
		t.Errorf("%d parents", len(c.From))
	}
	if l, e := d.Entries("main"); len(l) != api.MaxHeads || e != api.OK {
		t.Errorf("%d, %d", len(l), e)
	}
	if n, e := checks(t, d); n != api.MaxHeads+1 || e != api.OK {
		t.Errorf("Check: %d, %d", n, e)
	}
	changes(t, d, "", ops...)
}

// TestBaseGreatest: of several commits that both have the base is the one of the greatest at.
func TestBaseGreatest(t *testing.T) {
	d := made(t, 1000)
	changes(t, d, "a", set("a", "k", 1))
	changes(t, d, "old", branch("old", "a"))
	changes(t, d, "a", set("a", "k", 2))
	changes(t, d, "a", set("a", "k", 3))
	changes(t, d, "b", branch("b", "a"))
	changes(t, d, "a", set("a", "x", 1))
	changes(t, d, "b", set("b", "k", 1))
	// Over an older base both would have changed k.
	changes(t, d, "a", merge("a", "b"))
	is(t, d, "a", "k", 1, true)
	is(t, d, "a", "x", 1, true)
	// Older ones behind another way count less, however they are come to.
	changes(t, d, "old", set("old", "y", 1))
	changes(t, d, "a", merge("a", "old"))
	changes(t, d, "b", merge("b", "old"))
	changes(t, d, "b", set("b", "k", 5))
	changes(t, d, "a", merge("a", "b"))
	is(t, d, "a", "k", 5, true)
}

// TestBaseLeast: two commits that both have, of one at, the greatest: the base is the one of the least link. Forged so that either may be it.
func TestBaseLeast(t *testing.T) {
	first, second := 0, 0
	for i := range 12 {
		d := made(t, 1000)
		s := d.Store().Copy()
		text := fmt.Sprint("p", i%10, "q", i/10)
		one := put(s, commitMap(5, nil, "one", trieOf(t, s, wide, "k1"+text)))
		two := put(s, commitMap(5, nil, "two", trieOf(t, s, wide, "k2"+text)))
		older := put(s, commitMap(4, nil, "older", trieOf(t, s, wide, "")))
		mine := put(s, commitMap(6, []api.Link{older, one, two}, "mine", trieOf(t, s, wide, "k1"+text)))
		their := put(s, commitMap(7, []api.Link{two, older, one}, "their", trieOf(t, s, wide, "k2"+text)))
		brings(t, d, "a", s, mine)
		brings(t, d, "b", s, their)
		// Over one the other head alone has changed k, over two this one.
		want := uint64(2)
		first++
		if link.Less(two, one) {
			want = 1
			first--
			second++
		}
		changes(t, d, "a", merge("a", "b"))
		is(t, d, "a", "k", want, true)
		if c := top(t, d, "a"); c.At != 8 {
			t.Errorf("%+v", c)
		}
	}
	if first == 0 || second == 0 {
		t.Errorf("%d, %d: too few to tell", first, second)
	}
}

// TestCriss: two heads, each merged with the other: then there are two commits of the greatest at that both have.
func TestCriss(t *testing.T) {
	d := made(t, 1000)
	changes(t, d, "a", set("a", "x", 1))
	changes(t, d, "b", branch("b", "a"))
	for i := range uint64(6) {
		changes(t, d, "a b", set("a", fmt.Sprint("p", i), i), set("b", fmt.Sprint("q", i), i))
		changes(t, d, "a b", merge("a", "b"), merge("b", "a"))
		if top(t, d, "a").Root != top(t, d, "b").Root || headOf(t, d, "a") == headOf(t, d, "b") {
			t.Errorf("%d: %+v, %+v", i, top(t, d, "a"), top(t, d, "b"))
		}
	}
	if l, e := d.Entries("a"); len(l) != 13 || e != api.OK {
		t.Errorf("%d entries, %d", len(l), e)
	}
}

// TestMergeRead: the ancestors of both are read, those of the head first; the first error counts.
func TestMergeRead(t *testing.T) {
	d := made(t, 1000)
	changes(t, d, "a b", set("a", "x", 1), set("b", "y", 1))
	changes(t, d, "a b", set("a", "x", 2), set("b", "y", 2))
	changes(t, d, "a b", set("a", "x", 3), set("b", "y", 3))
	firstOf := func(name string) api.Link {
		l, _ := d.Log(name, 3)
		return l[1].From[0]
	}
	a, b := firstOf("a"), firstOf("b")
	spoil := func(l api.Link, e api.Errno) func(*store.Store) {
		return func(s *store.Store) {
			if e == api.ErrStoreBad {
				force(s, l)
			} else {
				s.Delete(l)
			}
		}
	}
	none, bad := api.ErrStoreNone, api.ErrStoreBad
	for _, c := range []struct{ a, b, want api.Errno }{{none, api.OK, none}, {bad, api.OK, bad}, {api.OK, none, none}, {api.OK, bad, bad}, {none, bad, none}, {bad, none, bad}} {
		x := twin(d)
		if c.a != api.OK {
			spoil(a, c.a)(x.Store())
		}
		if c.b != api.OK {
			spoil(b, c.b)(x.Store())
		}
		refuses(t, x, c.want, merge("a", "b"))
		refuses(t, x, api.ErrDepotHead, merge("a", "none"))
		// Nothing else reads them.
		changes(t, x, "a b", set("a", "x", 4), set("b", "y", 4))
	}
	x := twin(d)
	x.Store().Delete(a)
	refuses(t, x, none, merge("a", "a"))
	refuses(t, x, none, branch("c", "a"), merge("c", "b"))
	// A root that no merge reads is not missed.
	x = twin(d)
	c, _ := x.Commit(a)
	x.Store().Delete(c.Root)
	changes(t, x, "a", merge("a", "b"))
	x = twin(d)
	x.Store().Delete(top(t, d, "b").Root)
	refuses(t, x, none, merge("a", "b"))
	force(x.Store(), top(t, d, "a").Root)
	refuses(t, x, bad, merge("a", "b"))
}
