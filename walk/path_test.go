package walk

// P18.1: paths, step by step; which error counts, and how many steps are told beside it.

import (
	"fmt"
	"math"
	"strings"
	"testing"

	"trellis/api"
	"trellis/sample"
)

// TestPathExamples: the chapter's examples 1 to 3.
func TestPathExamples(t *testing.T) {
	s, tree, raw, none, key := world(t)
	leads(t, "t", s, tree, linkOf(tree))
	leads(t, "1", s, tree, sample.Whole(1), follow(), atKey("a"), atPlace(0))
	leads(t, "r", s, tree, linkOf(raw), follow(), atKey("a"), atPlace(1))
	leads(t, "behind r", s, tree, octets("\x01\x02"), follow(), atKey("a"), atPlace(1), follow())
	leads(t, "n", s, key, linkOf(none), atEntry("x"), follow(), atKey("b"))
	refuses(t, "behind n", s, key, 3, api.ErrStoreNone, atEntry("x"), follow(), atKey("b"), follow())
	refuses(t, "a link is no map", s, tree, 0, api.ErrWalkStep, atKey("a"))
	refuses(t, "a map is no list", s, tree, 1, api.ErrWalkStep, follow(), atPlace(0))
	refuses(t, "no such key", s, tree, 1, api.ErrWalkStep, follow(), atKey("c"))
	refuses(t, "no such entry", s, key, 0, api.ErrWalkStep, atEntry("y"))
	refuses(t, "no trie", s, tree, 0, api.ErrTrieNode, atEntry("x"))
	refuses(t, "bytes are no link", s, raw, 1, api.ErrWalkStep, follow(), follow())
	refuses(t, "no such kind", s, tree, 0, api.ErrWalkKind, api.Step{Kind: 9})
	refuses(t, "Follow with N", s, tree, 0, api.ErrWalkKind, api.Step{Kind: api.StepFollow, N: 1})
	refuses(t, "Key with N", s, tree, 0, api.ErrWalkKind, api.Step{Kind: api.StepKey, Text: "a", N: 1})
}

// TestFirstPlace: no step at all: the link itself, whatever it is and whether anything stands there; a link that may not be, whatever the path.
func TestFirstPlace(t *testing.T) {
	s, tree, raw, none, key := world(t)
	for i, l := range []api.Link{tree, raw, none, key, oldLink("x"), linkIn(0, "x"), linkIn(1<<63-1, "x"), linkIn(api.CodecOld, "x"), inline(api.CodecTree, ""), inline(api.CodecTree, strings.Repeat("\xff", api.MaxInline)), inline(api.CodecRaw, "x")} {
		leads(t, fmt.Sprint(i), s, l, linkOf(l))
		if v, n, e := Resolve(s, l, []api.Step{}...); n != 0 || e != api.OK || written(v) != written(linkOf(l)) {
			t.Errorf("%d: %d, %d", i, n, e)
		}
	}
	for i, l := range noLinks() {
		refuses(t, fmt.Sprint(i), s, l, 0, api.ErrStoreLink)
		for _, x := range []api.Step{follow(), atEntry("x"), atKey("a"), atPlace(0), {}, {Kind: 9}, atEntry(strings.Repeat("x", api.MaxKey+1))} {
			refuses(t, fmt.Sprint(i, x.Kind), s, l, 0, api.ErrStoreLink, x)
			refuses(t, fmt.Sprint(i, x.Kind), s, l, 0, api.ErrStoreLink, follow(), x)
		}
	}
}

// places: places of each kind, by what they are.
func places() map[string]api.Value {
	old, lost := oldLink("x"), linkIn(api.CodecTree, "lost")
	return map[string]api.Value{
		"null": sample.Null(), "false": {Kind: api.KindBool}, "true": {Kind: api.KindBool, Flag: true}, "a number": sample.Whole(1<<64 - 1), "a negative number": {Kind: api.KindInt, Neg: true}, "a float": sample.Float(1 << 63),
		"a text": sample.Text("a"), "an empty text": sample.Text(""), "bytes": octets("\x81\x00"), "no bytes": octets(""), "a raw link": linkOf(inline(api.CodecRaw, "raw")), "a tree link": linkOf(inline(api.CodecTree, "\x81\x05")),
		"an old link": linkOf(old), "a lost link": linkOf(lost), "a list": sample.List(sample.Whole(7), sample.Null()), "an empty list": sample.List(), "a map": sample.Map("a", sample.Whole(8)), "an empty map": sample.Map(""),
		"a map of the empty key": {Kind: api.KindMap, Keys: []string{""}, Items: []api.Value{sample.Whole(9)}},
	}
}

// TestEachPlace: each kind of step from each kind of place, below lists, below maps, out of a trie, and behind a link.
func TestEachPlace(t *testing.T) {
	s := made(t, 1000)
	steps := map[string]api.Step{"follow": follow(), "a": atKey("a"), "the empty key": atKey(""), "0": atPlace(0), "1": atPlace(1), "2": atPlace(2), "entry": atEntry("a"), "the empty entry": atEntry("")}
	good := map[string]api.Value{
		"a list, 0": sample.Whole(7), "a list, 1": sample.Null(), "a map, a": sample.Whole(8), "a map of the empty key, the empty key": sample.Whole(9),
		"a raw link, follow": octets("raw"), "a tree link, follow": sample.List(sample.Whole(5)),
	}
	bad := map[string]api.Errno{
		"an old link, follow": api.ErrStoreNone, "a lost link, follow": api.ErrStoreNone, "a raw link, entry": api.ErrTrieNode, "a tree link, entry": api.ErrTrieNode, "an old link, entry": api.ErrStoreNone, "a lost link, entry": api.ErrStoreNone,
		"a raw link, the empty entry": api.ErrTrieNode, "a tree link, the empty entry": api.ErrTrieNode, "an old link, the empty entry": api.ErrStoreNone, "a lost link, the empty entry": api.ErrStoreNone,
	}
	for from, v := range places() {
		tree := put(s, v)
		roots := []struct {
			l    api.Link
			path []api.Step
		}{
			{tree, []api.Step{follow()}},
			{put(s, sample.List(sample.Null(), v)), []api.Step{follow(), atPlace(1)}},
			{put(s, sample.Map("b k", sample.Null(), v)), []api.Step{follow(), atKey("k")}},
			{put(s, sample.List(sample.Map("x", sample.List(v)))), []api.Step{follow(), atPlace(0), atKey("x"), atPlace(0)}},
			{laid(t, s, api.Trie{Width: 4, Bucket: 1, Bytes: 4}, map[string]api.Value{"x": v, "y": sample.Null()}), []api.Step{atEntry("x")}},
			{put(s, linkOf(tree)), []api.Step{follow(), follow()}},
		}
		for _, r := range roots {
			leads(t, from, s, r.l, v, r.path...)
			for what, x := range steps {
				what = from + ", " + what
				path := append(r.path[:len(r.path):len(r.path)], x)
				if want, is := good[what]; is {
					leads(t, what, s, r.l, want, path...)
					continue
				}
				want, is := bad[what]
				if !is {
					want = api.ErrWalkStep
				}
				refuses(t, what, s, r.l, len(r.path), want, path...)
				refuses(t, what+", and on", s, r.l, len(r.path), want, append(path, follow(), api.Step{Kind: 9})...)
			}
		}
	}
}

// TestPlaces: StepPlace at the ends of lists.
func TestPlaces(t *testing.T) {
	s := made(t, 1000)
	for _, n := range []int{0, 1, 2, 23, 24, 300} {
		v := sample.List()
		for i := range n {
			v.Items = append(v.Items, sample.Whole(uint64(1000+i)))
		}
		l := put(s, v)
		for i := range n {
			leads(t, fmt.Sprint(n, i), s, l, sample.Whole(uint64(1000+i)), follow(), atPlace(i))
		}
		for _, i := range []int{n, n + 1, -1, -n, -n - 1, math.MaxInt, math.MinInt, 1 << 32, -1 << 32} {
			if i != 0 || n == 0 {
				refuses(t, fmt.Sprint(n, i), s, l, 1, api.ErrWalkStep, follow(), atPlace(i))
			}
		}
	}
}

// TestKeys: StepKey by all sorts of keys; a key that is no good UTF-8 is in no map, and no wrong kind.
func TestKeys(t *testing.T) {
	s := made(t, 1000)
	v, keys := api.Value{Kind: api.KindMap}, []string{"", "a", "b", "aa", "ab", "\x00", "\u00e4", "\ufffd", "\U0001f600", strings.Repeat("k", 300)}
	for i := range 100 {
		keys = append(keys, fmt.Sprint("key ", i))
	}
	for i, key := range keys {
		v.Keys, v.Items = append(v.Keys, key), append(v.Items, sample.Whole(uint64(i)))
	}
	l := put(s, v)
	for i, key := range keys {
		leads(t, key, s, l, sample.Whole(uint64(i)), follow(), atKey(key))
	}
	for _, key := range []string{"c", "A", "aaa", "a\x00", "\x00\x00", "\xff", "\xed\xa0\x80", "\xc3", "key ", "key 100", strings.Repeat("k", 299), strings.Repeat("k", 5000)} {
		refuses(t, key, s, l, 1, api.ErrWalkStep, follow(), atKey(key))
	}
	one := put(s, sample.Map("a", sample.Null()))
	refuses(t, "the empty key in a map without it", s, one, 1, api.ErrWalkStep, follow(), atKey(""))
}

// TestEntries: StepEntry by all sorts of keys, in tries of one node and of many; values that are links are not followed.
func TestEntries(t *testing.T) {
	s, tree, raw, none, _ := world(t)
	longest := strings.Repeat("x", api.MaxKey)
	m := map[string]api.Value{"": linkOf(raw), "t": linkOf(tree), "n": linkOf(none), longest: sample.Map("bb a", sample.Null(), linkOf(raw)), "\xff\x00": sample.List(), "old": linkOf(oldLink("x"))}
	for i := range 40 {
		m[fmt.Sprint(i)] = sample.List(sample.Whole(uint64(i)), linkOf(tree))
	}
	for _, c := range []api.Trie{{Width: 8, Bucket: 16, Bytes: 1}, {Width: 1, Bucket: 1, Bytes: 32}, {Width: 5, Bucket: 3, Bytes: 20}} {
		root := laid(t, s, c, m)
		above := put(s, sample.List(linkOf(root)))
		for key, v := range m {
			want := v
			if key == longest {
				want = sample.Map("a bb", linkOf(raw), sample.Null()) // as read.Decode tells it
			}
			leads(t, key, s, root, want, atEntry(key))
			leads(t, key, s, above, want, follow(), atPlace(0), atEntry(key))
		}
		leads(t, "a nil key", s, root, linkOf(raw), api.Step{Kind: api.StepEntry})
		leads(t, "on behind a link", s, root, sample.Whole(1), atEntry("t"), follow(), atKey("a"), atPlace(0))
		leads(t, "in a value", s, root, linkOf(tree), atEntry("7"), atPlace(1))
		leads(t, "the root itself", s, root, sample.Text("trie"), follow(), atPlace(0))
		for _, key := range []string{"x", "40", "T", "\x00", longest[1:]} {
			refuses(t, key, s, root, 0, api.ErrWalkStep, atEntry(key))
			refuses(t, key, s, above, 2, api.ErrWalkStep, follow(), atPlace(0), atEntry(key), follow())
		}
		empty := laid(t, s, c, nil)
		refuses(t, "the empty trie", s, empty, 0, api.ErrWalkStep, atEntry(""))
		refuses(t, "the empty trie", s, empty, 0, api.ErrWalkStep, atEntry("t"))
	}
}

// TestEntryErrors: StepEntry: trie.Get's errors, and ErrWalkStep ahead of them where the place is no link.
func TestEntryErrors(t *testing.T) {
	s, tree, raw, none, key := world(t)
	long := atEntry(strings.Repeat("x", api.MaxKey+1))
	for _, l := range []api.Link{tree, raw, none, key, oldLink("x"), inline(api.CodecRaw, "")} {
		refuses(t, "too long a key", s, l, 0, api.ErrTrieKey, long)
	}
	refuses(t, "too long a key in a map", s, tree, 1, api.ErrWalkStep, follow(), long)
	refuses(t, "an entry of a map", s, tree, 1, api.ErrWalkStep, follow(), atEntry("a"))
	refuses(t, "an entry of a root that was followed", s, key, 1, api.ErrWalkStep, follow(), atEntry("x"))
	form, _ := s.Get(key)
	for what, l := range map[string]api.Link{
		"a root under another codec": add(s, linkIn(7, string(form)), string(form)), "a root under a raw link": add(s, linkIn(api.CodecRaw, string(form)), string(form)),
		"a root under an old link": add(s, oldLink(string(form)), string(form)), "a root in a link": inline(api.CodecTree, string(form[:min(len(form), api.MaxInline)])), "the empty trie in a link": inline(api.CodecTree, "\x86\x64trie\x02\x01\x01\x41\x00\x80"),
		"no tree": add(s, linkIn(api.CodecTree, "\xff"), "\xff"), "another tree": tree, "a raw block": raw,
	} {
		refuses(t, what, s, l, 0, api.ErrTrieNode, atEntry("x"))
	}
	refuses(t, "a lost root", s, none, 0, api.ErrStoreNone, atEntry("x"))
	for _, e := range []api.Errno{api.ErrStoreNone, api.ErrStoreBad} {
		refuses(t, "a broken root", broken(s, key, e), key, 0, e, atEntry("x"))
		refuses(t, "a broken block behind an entry", broken(s, tree, e), key, 1, e, atEntry("x"), follow())
		leads(t, "a broken block that is not read", broken(s, tree, e), key, linkOf(tree), atEntry("x"))
	}
}

// TestBrokenNodes: StepEntry: a node below the root that is broken or forged: the keys behind it are refused, the others are not.
func TestBrokenNodes(t *testing.T) {
	s := made(t, 1000)
	c := api.Trie{Width: 2, Bucket: 1, Bytes: 1} // "b" and "c" are behind one link, "a" is beside it (chapter 14)
	root := laid(t, s, c, map[string]api.Value{"a": sample.Whole(3), "b": sample.Whole(1), "c": sample.Whole(2)})
	for _, l := range s.Links() {
		if l == root {
			continue
		}
		for _, e := range []api.Errno{api.ErrStoreNone, api.ErrStoreBad} {
			on := broken(s, l, e)
			leads(t, "beside", on, root, sample.Whole(3), atEntry("a"))
			refuses(t, "behind", on, root, 0, e, atEntry("b"))
			refuses(t, "behind", on, root, 0, e, atEntry("c"))
		}
	}
	forged := put(s, sample.List(sample.Text("trie"), sample.Whole(2), sample.Whole(1), sample.Whole(1), octets("\x01"), sample.List(linkOf(root))))
	refuses(t, "forged", s, forged, 0, api.ErrTrieNode, atEntry("b"))
	refuses(t, "forged, no such key", s, forged, 0, api.ErrWalkStep, atEntry("a"))
}

// TestFollow: StepFollow of each sort of link, where its block is there, lost, or another one.
func TestFollow(t *testing.T) {
	v := sample.Map("a bb", sample.List(), sample.Whole(1))
	form := formOf(v)
	for i, c := range []struct {
		l    api.Link
		b    string
		want api.Value
		e    api.Errno
	}{
		{linkIn(api.CodecTree, form), form, v, api.OK}, {linkIn(api.CodecTree, "\xf6"), "\xf6", sample.Null(), api.OK},
		{linkIn(api.CodecRaw, form), form, octets(form), api.OK}, {linkIn(api.CodecRaw, ""), "", octets(""), api.OK}, {linkIn(api.CodecRaw, "\xff"), "\xff", octets("\xff"), api.OK},
		{linkIn(api.CodecTree, ""), "", api.Value{}, api.ErrWalkBlock}, {linkIn(api.CodecTree, "\xff"), "\xff", api.Value{}, api.ErrWalkBlock}, {linkIn(api.CodecTree, form+"\x00"), form + "\x00", api.Value{}, api.ErrWalkBlock},
		{linkIn(api.CodecTree, form[:3]), form[:3], api.Value{}, api.ErrWalkBlock}, {linkIn(api.CodecTree, "\x18\x01"), "\x18\x01", api.Value{}, api.ErrWalkBlock}, {linkIn(api.CodecTree, "\x9f\xff"), "\x9f\xff", api.Value{}, api.ErrWalkBlock},
		{oldLink(form), form, api.Value{}, api.ErrWalkBlock}, {linkIn(api.CodecOld, form), form, api.Value{}, api.ErrWalkBlock}, {linkIn(0, form), form, api.Value{}, api.ErrWalkBlock}, {linkIn(1<<63-1, form), form, api.Value{}, api.ErrWalkBlock},
		{linkIn(api.CodecTree+1, form), form, api.Value{}, api.ErrWalkBlock}, {linkIn(api.CodecRaw+1, ""), "", api.Value{}, api.ErrWalkBlock},
	} {
		s := made(t, 10)
		above := put(s, sample.List(linkOf(c.l)))
		for _, e := range []api.Errno{api.ErrStoreNone, api.ErrStoreBad, c.e} {
			if e == c.e {
				add(s, c.l, c.b)
			} else if e == api.ErrStoreBad && s.Force(c.l, []byte("another")) != api.OK {
				t.Fatal(i)
			}
			if e == api.OK {
				leads(t, fmt.Sprint(i), s, c.l, c.want, follow())
				leads(t, fmt.Sprint(i), s, above, c.want, follow(), atPlace(0), follow())
				continue
			}
			refuses(t, fmt.Sprint(i), s, c.l, 0, e, follow())
			refuses(t, fmt.Sprint(i), s, above, 2, e, follow(), atPlace(0), follow(), follow())
		}
	}
}

// TestFollowInline: StepFollow of links that hold their bytes themselves: nothing need stand in the store.
func TestFollowInline(t *testing.T) {
	s := made(t, 1)
	long := strings.Repeat("x", api.MaxInline)
	leads(t, "raw", s, inline(api.CodecRaw, long), octets(long), follow())
	leads(t, "raw, no bytes", s, inline(api.CodecRaw, ""), octets(""), follow())
	leads(t, "a tree", s, inline(api.CodecTree, "\x81\x61a"), sample.List(sample.Text("a")), follow())
	leads(t, "in a tree", s, inline(api.CodecTree, "\x81\x61a"), sample.Text("a"), follow(), atPlace(0))
	for _, l := range []api.Link{inline(api.CodecTree, ""), inline(api.CodecTree, "\xff"), inline(api.CodecTree, "\x01\x01"), inline(7, "\x01"), inline(api.CodecOld, "\x01"), inline(0, "")} {
		refuses(t, fmt.Sprint(l), s, l, 0, api.ErrWalkBlock, follow())
	}
	l, want := inline(api.CodecRaw, "end"), []api.Step{follow()}
	for range 5 {
		l = inline(api.CodecTree, formOf(linkOf(l)))
		want = append(want, follow())
		leads(t, "one in the other", s, l, octets("end"), want...)
	}
}

// TestKinds: steps of no kind, and fields that a kind does not use, at places that fit and at others, ahead of ErrWalkStep and of what stands behind.
func TestKinds(t *testing.T) {
	s, tree, raw, none, key := world(t)
	var wrong []api.Step
	for _, kind := range []int{-1, 0, 5, 9, math.MaxInt, math.MinInt} {
		wrong = append(wrong, api.Step{Kind: kind}, api.Step{Kind: kind, Text: "a"}, api.Step{Kind: kind, N: 1}, api.Step{Kind: kind, Key: []byte("x")})
	}
	for kind := api.StepKey; kind <= api.StepFollow; kind++ {
		for i := 1; i < 8; i++ {
			x := api.Step{Kind: kind}
			used := map[int]int{api.StepKey: 1, api.StepPlace: 2, api.StepEntry: 4}[kind]
			if i&^used == 0 {
				continue
			}
			if i&1 > 0 {
				x.Text = "a"
			}
			if i&2 > 0 {
				x.N = 1
			}
			if i&4 > 0 {
				x.Key = []byte("x")
			}
			wrong = append(wrong, x)
		}
	}
	wrong = append(wrong, api.Step{Kind: api.StepKey, Text: "a", N: -1}, api.Step{Kind: api.StepFollow, Text: "\x00"}, api.Step{Kind: api.StepFollow, Key: []byte{0}}, api.Step{Kind: api.StepEntry, Key: make([]byte, api.MaxKey+1), N: math.MinInt})
	for _, x := range wrong {
		what := fmt.Sprintf("%.50v", fmt.Sprint(x))
		for _, l := range []api.Link{tree, raw, none, key, oldLink("x"), inline(api.CodecTree, "\xff")} {
			refuses(t, what, s, l, 0, api.ErrWalkKind, x)
			refuses(t, what, s, l, 0, api.ErrWalkKind, x, follow())
		}
		refuses(t, what, s, tree, 1, api.ErrWalkKind, follow(), x)
		refuses(t, what, s, tree, 2, api.ErrWalkKind, follow(), atKey("a"), x)
		refuses(t, what, s, tree, 3, api.ErrWalkKind, follow(), atKey("a"), atPlace(0), x)
		refuses(t, what, s, key, 1, api.ErrWalkKind, atEntry("x"), x)
		refuses(t, what+" behind another error", s, tree, 1, api.ErrWalkStep, follow(), atKey("c"), x)
		refuses(t, what+" behind another error", s, none, 0, api.ErrStoreNone, follow(), x)
	}
	none0 := []byte{}
	leads(t, "an empty Key is none", s, tree, sample.Whole(1), api.Step{Kind: api.StepFollow, Key: none0}, api.Step{Kind: api.StepKey, Text: "a", Key: none0}, api.Step{Kind: api.StepPlace, Key: none0})
	refuses(t, "an empty Key is none", s, key, 0, api.ErrWalkStep, api.Step{Kind: api.StepEntry, Key: none0})
}

// TestFirstRefusal: of several steps that would be refused the first one's error is told, and how many were made ahead of it.
func TestFirstRefusal(t *testing.T) {
	s, tree, _, none, key := world(t)
	odd := add(s, linkIn(7, "x"), "x")
	steps := []struct {
		x api.Step
		e api.Errno
	}{{api.Step{Kind: 9}, api.ErrWalkKind}, {atKey("a"), api.ErrWalkStep}, {atPlace(0), api.ErrWalkStep}, {atEntry(strings.Repeat("x", api.MaxKey+1)), api.ErrTrieKey}, {atEntry("x"), api.ErrTrieNode}, {follow(), api.ErrWalkBlock}}
	above := put(s, sample.List(linkOf(odd), linkOf(none), linkOf(tree), linkOf(key)))
	ways := [][]api.Step{nil, {follow(), atPlace(0)}}
	for i, l := range []api.Link{odd, above} {
		for _, one := range steps {
			refuses(t, "alone", s, l, len(ways[i]), one.e, append(ways[i][:len(ways[i]):len(ways[i])], one.x)...)
			for _, two := range steps {
				refuses(t, "ahead of another", s, l, len(ways[i]), one.e, append(ways[i][:len(ways[i]):len(ways[i])], one.x, two.x)...)
			}
		}
	}
	refuses(t, "three made", s, above, 3, api.ErrWalkStep, follow(), atPlace(2), follow(), atKey("z"), api.Step{}, follow())
	refuses(t, "three made", s, above, 3, api.ErrWalkKind, follow(), atPlace(3), atEntry("x"), api.Step{}, follow())
}

// TestManySteps: paths as deep as trees may be, and over long rows of blocks.
func TestManySteps(t *testing.T) {
	s := made(t, 5000)
	deep, path := sample.Text("end"), []api.Step{follow()}
	for i := range api.MaxDepth {
		deep = sample.Within(deep, 1, "lm"[i%2:i%2+1])
		path = append(path, []api.Step{atKey("k"), atPlace(0)}[i%2])
	}
	l := put(s, deep)
	leads(t, "deep", s, l, sample.Text("end"), path...)
	refuses(t, "deeper", s, l, len(path), api.ErrWalkStep, append(path, atKey("k"))...)
	form := "\x81" + formOf(deep)
	refuses(t, "too deep", s, add(s, linkIn(api.CodecTree, form), form), 0, api.ErrWalkBlock, path...)
	end := put(s, sample.Text("end"))
	l, path = end, []api.Step{follow()}
	for range 3000 {
		l = put(s, sample.Map("a", sample.List(linkOf(l))))
		path = append(path, follow(), atKey("a"), atPlace(0))
	}
	path = append(path[1:], follow())
	for _, e := range []api.Errno{api.OK, api.ErrStoreNone, api.ErrStoreBad} {
		on, want, made := s, sample.Text("end"), len(path)
		if e != api.OK {
			on, want, made = broken(s, end, e), api.Value{}, len(path)-1
		}
		if v, n, f := Resolve(on, l, path...); f != e || n != made || written(v) != written(want) {
			t.Errorf("%s, %d, %d; want %s, %d, %d", written(v), n, f, written(want), made, e)
		}
	}
}

// TestAnyPath: whatever the store and the path.
func TestAnyPath(t *testing.T) {
	told, lengths := map[api.Errno]int{}, map[int]int{}
	for seed := range 400 {
		d := sample.Dice(seed)
		s, pool := anyWorld(t, &d)
		for range 30 {
			l := pool[max(d.Below(len(pool)), d.Below(len(pool)))]
			_, n, e := resolves(t, s, l, anyPath(&d, s, l, 12)...)
			told[e]++
			lengths[min(n, 6)]++
		}
	}
	for _, e := range []api.Errno{api.OK, api.ErrWalkKind, api.ErrWalkStep, api.ErrWalkBlock, api.ErrStoreNone, api.ErrStoreBad, api.ErrTrieNode, api.ErrTrieKey} {
		if told[e] < 20 {
			t.Errorf("%d is told %d times: too few to tell", e, told[e])
		}
	}
	for n := range 7 {
		if lengths[n] < 20 {
			t.Errorf("%d steps are made %d times: too few to tell", n, lengths[n])
		}
	}
}
