package walk

// The chapter read a second time, plainly.

import (
	"bytes"
	"fmt"
	"slices"
	"testing"

	"trellis/api"
	"trellis/link"
	"trellis/loose"
	"trellis/store"
	"trellis/trie"
	"trellis/value"
)

// plainTree: the tree whose form bytes are: what is read loosely, and of which nothing is noted (W2).
func plainTree(b []byte) (api.Value, bool) {
	v, notes, f := loose.Parse(b, api.MaxDepth)
	return v, f == (api.Fault{}) && len(notes) == 0
}

// plainBehind: what stands behind a link.
func plainBehind(s *store.Store, l api.Link) (api.Value, api.Errno) {
	b, e := s.Get(l)
	if e != api.OK {
		return api.Value{}, e
	}
	if l.Version == 1 && l.Codec == api.CodecRaw {
		return octets(string(b)), api.OK
	}
	if v, is := plainTree(b); is && l.Version == 1 && l.Codec == api.CodecTree {
		return v, api.OK
	}
	return api.Value{}, api.ErrWalkBlock
}

// plainKind: whether a step is one of the table's: with the field that its kind uses made zero, the kind is all that is left.
func plainKind(x api.Step) bool {
	switch x.Kind {
	case api.StepKey:
		x.Text = ""
	case api.StepPlace:
		x.N = 0
	case api.StepEntry:
		x.Key = nil
	case api.StepFollow:
	default:
		return false
	}
	return fmt.Sprintf("%q %d %q", x.Text, x.N, x.Key) == `"" 0 ""`
}

// plainStep: the next place.
func plainStep(s *store.Store, at api.Value, x api.Step) (api.Value, api.Errno) {
	if !plainKind(x) {
		return api.Value{}, api.ErrWalkKind
	}
	switch {
	case x.Kind == api.StepKey:
		if v, is := value.Find(at, x.Text); is {
			return v, api.OK
		}
	case x.Kind == api.StepPlace && at.Kind == api.KindList:
		for i, v := range at.Items {
			if i == x.N {
				return v, api.OK
			}
		}
	case x.Kind == api.StepEntry && at.Kind == api.KindLink:
		if v, is, e := trie.Get(s, at.Link, x.Key); is || e != api.OK {
			return v, e
		}
	case x.Kind == api.StepFollow && at.Kind == api.KindLink:
		return plainBehind(s, at.Link)
	}
	return api.Value{}, api.ErrWalkStep
}

// plainResolve: the last place of a path from a link on, and how many steps are made.
func plainResolve(s *store.Store, l api.Link, path []api.Step) (api.Value, int, api.Errno) {
	if link.Check(l) != api.OK {
		return api.Value{}, 0, api.ErrStoreLink
	}
	return plainFrom(s, linkOf(l), path)
}

// plainFrom: the same from any place on.
func plainFrom(s *store.Store, at api.Value, path []api.Step) (api.Value, int, api.Errno) {
	if len(path) == 0 {
		return at, 0, api.OK
	}
	next, e := plainStep(s, at, path[0])
	if e != api.OK {
		return api.Value{}, 0, e
	}
	v, n, e := plainFrom(s, next, path[1:])
	return v, n + 1, e
}

// plainLinks: all links in a tree, told to a function.
func plainLinks(v api.Value, tell func(api.Link)) {
	if v.Kind == api.KindLink {
		tell(v.Link)
	}
	for _, item := range v.Items {
		plainLinks(item, tell)
	}
}

// plainReach: all links that are come to, found by asking each again and again till no more come; then told in two lists.
func plainReach(s *store.Store, roots []api.Link) (there, lacking []api.Link, e api.Errno) {
	var all []api.Link
	come := func(l api.Link) {
		if !slices.Contains(all, l) {
			all = append(all, l)
		}
	}
	for _, l := range roots {
		if link.Check(l) != api.OK {
			return nil, nil, api.ErrStoreLink
		}
		come(l)
	}
	for before := -1; before < len(all); {
		before = len(all)
		for _, l := range slices.Clone(all) {
			if l.Version == 1 && l.Codec == api.CodecTree {
				v, _ := plainBehind(s, l)
				plainLinks(v, come)
			}
		}
	}
	for _, l := range all {
		b, bad := s.Get(l)
		_, tree := plainTree(b)
		if l.Hash != api.HashSha {
			continue
		}
		if bad != api.OK || !tree && l.Version == 1 && l.Codec == api.CodecTree {
			lacking = append(lacking, l)
		} else {
			there = append(there, l)
		}
	}
	return plainOrder(there), plainOrder(lacking), api.OK
}

// plainOrder: links by their bytes.
func plainOrder(links []api.Link) []api.Link {
	slices.SortFunc(links, func(a, b api.Link) int {
		one, _ := link.Bytes(a)
		two, _ := link.Bytes(b)
		return bytes.Compare(one, two)
	})
	return links
}

// written: a value as a text, field by field, in which nil and empty lists are one.
func written(v api.Value) string {
	text := fmt.Sprintf("{%d %v %v %d %x %q %x %d %d %d %q %q", v.Kind, v.Flag, v.Neg, v.N, v.Bits, v.Text, v.Bytes, v.Link.Version, v.Link.Codec, v.Link.Hash, v.Link.Digest, v.Keys)
	for _, item := range v.Items {
		text += " " + written(item)
	}
	return text + "}"
}

// resolves: Resolve, held against the plain reading; the store is as it was.
func resolves(t *testing.T, s *store.Store, l api.Link, path ...api.Step) (api.Value, int, api.Errno) {
	t.Helper()
	want, made, bad := plainResolve(s, l, path)
	was := standing(s)
	v, n, e := Resolve(s, l, path...)
	if e != bad || n != made || written(v) != written(want) {
		t.Fatalf("Resolve by %v: %.200s, %d, %d; want %.200s, %d, %d", path, written(v), n, e, written(want), made, bad)
	}
	if standing(s) != was {
		t.Fatalf("Resolve by %v has changed the store", path)
	}
	return v, n, e
}

// leads: Resolve tells just that place, and as many steps as there are.
func leads(t *testing.T, what string, s *store.Store, l api.Link, want api.Value, path ...api.Step) {
	t.Helper()
	if v, n, e := resolves(t, s, l, path...); e != api.OK || n != len(path) || written(v) != written(want) {
		t.Errorf("%s: %.200s, %d, %d; want %.200s, %d", what, written(v), n, e, written(want), len(path))
	}
}

// refuses: Resolve tells just that error, and so many steps.
func refuses(t *testing.T, what string, s *store.Store, l api.Link, steps int, want api.Errno, path ...api.Step) {
	t.Helper()
	if v, n, e := resolves(t, s, l, path...); e != want || n != steps || written(v) != written(api.Value{}) {
		t.Errorf("%s: %.200s, %d, %d; want %d, %d", what, written(v), n, e, steps, want)
	}
}

// reaches: Reach, held against the plain reading; the store is as it was.
func reaches(t *testing.T, s *store.Store, roots ...api.Link) (there, lacking []api.Link, e api.Errno) {
	t.Helper()
	one, two, bad := plainReach(s, roots)
	was := standing(s)
	there, lacking, e = Reach(s, roots...)
	if e != bad || !slices.Equal(there, one) || !slices.Equal(lacking, two) || e != api.OK && (there != nil || lacking != nil) {
		t.Fatalf("Reach of %v: %v, %v, %d; want %v, %v, %d", roots, there, lacking, e, one, two, bad)
	}
	if standing(s) != was {
		t.Fatalf("Reach of %v has changed the store", roots)
	}
	return there, lacking, e
}

// reached: Reach tells just these links, in whatever order they are given here.
func reached(t *testing.T, what string, s *store.Store, roots, there, lacking []api.Link) {
	t.Helper()
	there, lacking = plainOrder(slices.Clone(there)), plainOrder(slices.Clone(lacking))
	if a, b, e := reaches(t, s, roots...); e != api.OK || !slices.Equal(a, there) || !slices.Equal(b, lacking) {
		t.Errorf("%s: %v, %v, %d; want %v, %v", what, a, b, e, there, lacking)
	}
}

func links(l ...api.Link) []api.Link { return l }
