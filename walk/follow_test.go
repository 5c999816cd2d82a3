package walk

// P18.4 and P18.5: what follows; what is handed in and what is told; whatever stands in the store.

import (
	"fmt"
	"slices"
	"strings"
	"testing"

	"trellis/api"
	"trellis/sample"
	"trellis/store"
)

// TestTwoParts: P18.4, a path of two, one behind the other, is the first one's, and then the second one's from its last place on.
func TestTwoParts(t *testing.T) {
	whole, cut := 0, 0
	for seed := range 300 {
		d := sample.Dice(seed)
		s, pool := anyWorld(t, &d)
		for range 30 {
			l := pool[max(d.Below(len(pool)), d.Below(len(pool)))]
			first := anyPath(&d, s, l, 6)
			v, n, e := Resolve(s, l, first...)
			if e != api.OK {
				cut++
				if w, m, f := Resolve(s, l, append(first, follow(), atPlace(0))...); f != e || m != n || written(w) != written(v) {
					t.Fatalf("seed %d: refused at %d, %d; with more behind it at %d, %d", seed, n, e, m, f)
				}
				continue
			}
			if v.Kind != api.KindLink {
				continue
			}
			whole++
			second := anyPath(&d, s, v.Link, 6)
			want, more, bad := Resolve(s, v.Link, second...)
			got, m, f := Resolve(s, l, slices.Concat(first, second)...)
			if f != bad || m != n+more || written(got) != written(want) {
				t.Fatalf("seed %d: %d, %d; want %d and %d, %d", seed, m, f, n, more, bad)
			}
		}
	}
	if whole < 500 || cut < 500 {
		t.Errorf("%d of two parts, %d refused: too few to tell", whole, cut)
	}
}

// both: links of two lists, each once, in order.
func both(a, b []api.Link) []api.Link {
	return slices.Compact(plainOrder(slices.Concat(a, b)))
}

// TestReachFollows: P18.4, all that was told tells the same again; some roots and others tell what both tell; every link of HashSha in a tree that is there is told.
func TestReachFollows(t *testing.T) {
	for seed := range 300 {
		d := sample.Dice(seed)
		s, pool := anyWorld(t, &d)
		for range 5 {
			some, others := anyRoots(&d, pool), anyRoots(&d, pool)
			there, lacking, _ := Reach(s, some...)
			again, missing, e := Reach(s, slices.Concat(there, lacking)...)
			if e != api.OK || !slices.Equal(again, there) || !slices.Equal(missing, lacking) {
				t.Fatalf("seed %d: %v, %v, %d; want %v, %v again", seed, again, missing, e, there, lacking)
			}
			more, less, _ := Reach(s, others...)
			all, none, e := Reach(s, slices.Concat(some, others)...)
			if e != api.OK || !slices.Equal(all, both(there, more)) || !slices.Equal(none, both(lacking, less)) {
				t.Fatalf("seed %d: %v, %v, %d of both", seed, all, none, e)
			}
			for _, l := range there {
				v, e := plainBehind(s, l)
				if e != api.OK && e != api.ErrWalkBlock {
					t.Fatalf("seed %d: %v is told as there: %d", seed, l, e)
				}
				plainLinks(v, func(x api.Link) {
					if x.Hash == api.HashSha && !slices.Contains(there, x) && !slices.Contains(lacking, x) {
						t.Fatalf("seed %d: %v is not told", seed, x)
					}
				})
			}
		}
	}
}

// TestPathsReach: P18.2, a link of HashSha to which a path leads is told.
func TestPathsReach(t *testing.T) {
	found := 0
	for seed := range 200 {
		d := sample.Dice(seed)
		s, pool := anyWorld(t, &d)
		for range 20 {
			l := pool[max(d.Below(len(pool)), d.Below(len(pool)))]
			v, _, e := Resolve(s, l, anyPath(&d, s, l, 8)...)
			if e != api.OK || v.Kind != api.KindLink || v.Link.Hash != api.HashSha {
				continue
			}
			found++
			there, lacking, _ := Reach(s, l)
			if !slices.Contains(there, v.Link) && !slices.Contains(lacking, v.Link) {
				t.Fatalf("seed %d: %v is not told", seed, v.Link)
			}
		}
	}
	if found < 200 {
		t.Errorf("%d links: too few to tell", found)
	}
}

// spacious: a path whose lists have spare room, all of it filled.
func spacious(path []api.Step) []api.Step {
	all := make([]api.Step, 0, len(path)+3)
	for _, x := range path {
		key := append(make([]byte, 0, len(x.Key)+5), x.Key...)
		copy(key[len(key):cap(key)], "spare")
		x.Key = key
		all = append(all, x)
	}
	copy(all[len(all):cap(all)], []api.Step{atKey("spare"), atPlace(7), follow()})
	return all
}

// asText: a path with its spare room, as a text.
func asText(path []api.Step) string {
	text := ""
	for _, x := range path[:cap(path)] {
		text += fmt.Sprintf("%d %q %d %q;", x.Kind, x.Text, x.N, x.Key[:cap(x.Key)])
	}
	return text
}

// TestPathHandedIn: P18.5 and R2, a path is neither changed nor kept, its spare room too.
func TestPathHandedIn(t *testing.T) {
	for seed := range 200 {
		d := sample.Dice(seed)
		s, pool := anyWorld(t, &d)
		l := pool[max(d.Below(len(pool)), d.Below(len(pool)))]
		path := spacious(anyPath(&d, s, l, 8))
		was := asText(path)
		v, n, e := Resolve(s, l, path...)
		if asText(path) != was {
			t.Fatalf("seed %d: the path has changed", seed)
		}
		told, again := written(v), slices.Clone(path)
		for i := range again {
			again[i].Key = slices.Clone(path[i].Key)
			clear(path[i].Key[:cap(path[i].Key)])
		}
		clear(path[:cap(path)])
		if written(v) != told {
			t.Fatalf("seed %d: what was told has the memory of the path", seed)
		}
		if w, m, f := Resolve(s, l, again...); m != n || f != e || written(w) != told {
			t.Fatalf("seed %d: the path was written over, and another thing is told", seed)
		}
	}
}

// TestRootsHandedIn: P18.5 and R2, roots are neither changed nor kept, their spare room too; what is told is the caller's own.
func TestRootsHandedIn(t *testing.T) {
	for seed := range 200 {
		d := sample.Dice(seed)
		s, pool := anyWorld(t, &d)
		some := append(anyRoots(&d, pool), pool[len(pool)-1])
		roots := append(make([]api.Link, 0, len(some)+100), some...)
		mark := linkIn(api.CodecRaw, "spare")
		for i := range roots[:cap(roots)][len(roots):] {
			roots[:cap(roots)][len(roots)+i] = mark
		}
		was := slices.Clone(roots[:cap(roots)])
		there, lacking, e := Reach(s, roots...)
		if e != api.OK || !slices.Equal(roots[:cap(roots)], was) {
			t.Fatalf("seed %d: the roots have changed: %d", seed, e)
		}
		one, two := slices.Clone(there), slices.Clone(lacking)
		clear(roots[:cap(roots)])
		if !slices.Equal(there, one) || !slices.Equal(lacking, two) {
			t.Fatalf("seed %d: what was told has the memory of the roots", seed)
		}
		for i := range there[:cap(there)] {
			there[:cap(there)][i] = mark
		}
		if slices.Contains(lacking[:cap(lacking)], mark) {
			t.Fatalf("seed %d: both lists have memory in common", seed)
		}
		clear(lacking[:cap(lacking)])
		if a, b, e := Reach(s, some...); e != api.OK || !slices.Equal(a, one) || !slices.Equal(b, two) {
			t.Fatalf("seed %d: what was told was written over, and other things are told", seed)
		}
	}
}

// TestPlaceIsNew: P18.5 and R2, a place that is told is the caller's own, and no two lists of it share memory.
func TestPlaceIsNew(t *testing.T) {
	nested := 0
	for seed := range 300 {
		d := sample.Dice(seed)
		s, pool := anyWorld(t, &d)
		for range 10 {
			l := pool[max(d.Below(len(pool)), d.Below(len(pool)))]
			path := anyPath(&d, s, l, 2)
			was := standing(s)
			one, _, _ := Resolve(s, l, path...)
			two, _, _ := Resolve(s, l, path...)
			if told := written(one); told != written(two) {
				t.Fatalf("seed %d: two calls tell unlike things", seed)
			} else if nested += len(one.Items); !sample.Apart(one, two) {
				t.Fatalf("seed %d: two answers share memory", seed)
			} else if again, _, _ := Resolve(s, l, path...); written(again) != told {
				t.Fatalf("seed %d: what was told was written over, and another thing is told", seed)
			}
			if standing(s) != was {
				t.Fatalf("seed %d: what was told was written over, and the store has changed", seed)
			}
		}
	}
	if nested < 500 {
		t.Errorf("%d items: too few to tell", nested)
	}
	s, _, raw, _, _ := world(t)
	v, _, _ := Resolve(s, raw, follow())
	clear(v.Bytes[:cap(v.Bytes)])
	leads(t, "a raw block's bytes", s, raw, octets("\x01\x02"), follow())
}

// anyBytes: some bytes that look like a form here and there.
func anyBytes(d *sample.Dice, pool []api.Link) string {
	parts := []string{"\x81", "\x82", "\xa1", "\xa1\x61a", "\xd8\x2a", "\xf6", "\x9f", "\xff", "\x18", "\x5b\x7f\xff\xff\xff\xff\xff\xff\xff", "\x9b\xff\xff\xff\xff\xff\xff\xff\xff", "\x61", "\x00"}
	text := ""
	for range d.Below(6) {
		text += parts[d.Below(len(parts))]
		if d.Below(2) == 0 {
			text += formOf(linkOf(pool[d.Below(len(pool))]))
		}
	}
	return text
}

// TestAnyBytes: P18.5 and R3, whatever stands in the store, by right or by force.
func TestAnyBytes(t *testing.T) {
	trees, others := 0, 0
	for seed := range 300 {
		d := sample.Dice(seed)
		s, pool := anyWorld(t, &d)
		for range 20 {
			b := anyBytes(&d, pool)
			l := linkIn(api.CodecTree, b)
			if d.Below(3) > 0 {
				add(s, l, b)
			} else if stood := s.Links(); len(stood) > 0 {
				l = stood[d.Below(len(stood))]
				if e := s.Force(l, []byte(b)); e != api.OK {
					t.Fatal(e)
				}
			}
			pool = append(pool, l)
		}
		for range 10 {
			there, lacking, _ := reaches(t, s, anyRoots(&d, pool)...)
			trees, others = trees+len(there), others+len(lacking)
			l := pool[max(d.Below(len(pool)), d.Below(len(pool)))]
			resolves(t, s, l, anyPath(&d, s, l, 6)...)
		}
	}
	if trees < 500 || others < 500 {
		t.Errorf("%d there, %d lacking: too few to tell", trees, others)
	}
}

// TestEmptyStore: all that can be asked of a store in which nothing stands, and of a full one.
func TestEmptyStore(t *testing.T) {
	s := made(t, 1)
	tree, raw := linkIn(api.CodecTree, "\xf6"), linkIn(api.CodecRaw, "\xf6")
	reached(t, "empty", s, links(tree, raw), nil, links(tree, raw))
	refuses(t, "empty", s, tree, 0, api.ErrStoreNone, follow())
	refuses(t, "empty", s, raw, 0, api.ErrStoreNone, atEntry(""))
	add(s, tree, "\xf6")
	reached(t, "full", s, links(tree, raw), links(tree), links(raw))
	leads(t, "full", s, tree, sample.Null(), follow())
}

// TestGreatBlocks: blocks as deep and as long as they may be.
func TestGreatBlocks(t *testing.T) {
	s := made(t, 100)
	lost := oldLink("lost")
	deep := formOf(sample.Within(linkOf(lost), api.MaxDepth, "l"))
	right, wrong := linkIn(api.CodecTree, deep), linkIn(api.CodecTree, "\x81"+deep)
	add(s, right, deep)
	add(s, wrong, "\x81"+deep)
	reached(t, "as deep as may be", s, links(right), links(right), links(lost))
	reached(t, "too deep", s, links(wrong), nil, links(wrong))
	zeros := strings.Repeat("\x00", api.MaxBlock)
	long := add(s, linkIn(api.CodecRaw, zeros), zeros)
	noTree := add(s, linkIn(api.CodecTree, zeros), zeros)
	tellsJust(t, "as long as may be", s, links(long, noTree), links(long), links(noTree))
	if v, n, e := Resolve(s, long, follow()); n != 1 || e != api.OK || v.Kind != api.KindBytes || string(v.Bytes) != zeros {
		t.Errorf("as long as may be: %d bytes, %d, %d", len(v.Bytes), n, e)
	}
	if _, n, e := Resolve(s, noTree, follow()); n != 0 || e != api.ErrWalkBlock {
		t.Errorf("as long as may be, no tree: %d, %d", n, e)
	}
}

// TestStoreStays: P18.5, nothing is changed in a store, whatever is answered: what was forced is there still, what is lost stays lost.
func TestStoreStays(t *testing.T) {
	s, tree, raw, none, key := world(t)
	if e := s.Force(raw, []byte("forced")); e != api.OK {
		t.Fatal(e)
	}
	was := standing(s)
	calls := []func(*store.Store){
		func(s *store.Store) { Reach(s, key, none, raw) },
		func(s *store.Store) { Reach(s, key, api.Link{}) },
		func(s *store.Store) { Reach(s, lostLinks(api.MaxReach+1)...) },
		func(s *store.Store) { Resolve(s, tree, follow(), atKey("a"), atPlace(1), follow()) },
		func(s *store.Store) { Resolve(s, key, atEntry("x"), follow(), atKey("b"), follow()) },
		func(s *store.Store) { Resolve(s, key, atEntry("y")) },
		func(s *store.Store) { Resolve(s, api.Link{}) },
	}
	for i, call := range calls {
		call(s)
		if standing(s) != was {
			t.Errorf("%d: the store has changed", i)
		}
	}
}
