package depot

// The chapter read a second time, plainly: by recursion, and with errors that are handed on.

import (
	"fmt"
	"maps"
	"reflect"
	"slices"
	"strings"
	"testing"

	"trellis/api"
	"trellis/archive"
	"trellis/change"
	"trellis/column"
	"trellis/link"
	"trellis/pull"
	"trellis/read"
	"trellis/store"
	"trellis/trie"
	"trellis/value"
	"trellis/walk"
)

// plainCommit: the commit of a link.
func plainCommit(s *store.Store, l api.Link) (api.Commit, api.Errno) {
	b, e := s.Get(l)
	if e != api.OK {
		return api.Commit{}, e
	}
	v, f := read.Decode(b, api.MaxDepth)
	if f.Code != api.OK || l.Version != 1 || l.Codec != api.CodecTree || v.Kind != api.KindMap || len(v.Keys) != 4 {
		return api.Commit{}, api.ErrDepotBlock
	}
	at, _ := value.Find(v, "at")
	from, _ := value.Find(v, "from")
	note, _ := value.Find(v, "note")
	root, _ := value.Find(v, "root")
	c := api.Commit{At: at.N, Root: root.Link, Note: note.Text}
	good := at.Kind == api.KindInt && !at.Neg && at.N > 0 && at.N <= 1<<40
	good = good && from.Kind == api.KindList && len(from.Items) <= 65
	good = good && note.Kind == api.KindText && len(note.Text) <= 256
	links := map[api.Link]int{}
	for _, x := range from.Items {
		c.From = append(c.From, x.Link)
		links[x.Link]++
		good = good && links[x.Link] == 1
	}
	for _, x := range append(from.Items, root) {
		good = good && x.Kind == api.KindLink && x.Link.Version == 1 && x.Link.Codec == 0x71 && x.Link.Hash == 0x12
	}
	if !good {
		return api.Commit{}, api.ErrDepotBlock
	}
	return c, api.OK
}

// plainPast: commits that have been read, and in which order.
type plainPast struct {
	store   *store.Store
	order   []api.Link
	commits map[api.Link]api.Commit
}

// plainAncestors reads the ancestors of some links.
func plainAncestors(s *store.Store, of ...api.Link) (*plainPast, api.Errno) {
	p := &plainPast{s, nil, map[api.Link]api.Commit{}}
	return p, p.read(of)
}

func (p *plainPast) read(of []api.Link) api.Errno {
	for _, l := range of {
		if _, is := p.commits[l]; is {
			continue
		}
		c, e := plainCommit(p.store, l)
		if e != api.OK {
			return e
		}
		p.order, p.commits[l] = append(p.order, l), c
		if e := p.read(c.From); e != api.OK {
			return e
		}
	}
	return api.OK
}

// plainName: whether a name may be.
func plainName(name string) bool { return name != "" && len(name) <= 64 && plainText(name) }

// plainText: whether a text is good UTF-8.
func plainText(text string) bool { return strings.ToValidUTF8(text, "") == text }

// plainHead: what a head is in a Do.
type plainHead struct {
	commit api.Link // the zero link of one that was begun
	root   api.Link // the zero link of one that was neither opened nor begun
	from   []api.Link
}

// plainWork: a Do under way.
type plainWork struct {
	ahead map[string]api.Link
	heads map[string]*plainHead
	store *store.Store
	plan  plan
}

// plainDo: what a Do of a depot does, which is not changed: the names, the heads and the store behind it.
func plainDo(d *Depot, note string, ops []api.Op) ([]string, map[string]api.Link, *store.Store, api.Errno) {
	if len(note) > 256 || !plainText(note) {
		return nil, nil, nil, api.ErrDepotNote
	}
	if len(ops) > 64 {
		return nil, nil, nil, api.ErrDepotFull
	}
	w := plainWork{commits(d), map[string]*plainHead{}, d.Store().Copy(), d.plan}
	for name, l := range w.ahead {
		w.heads[name] = &plainHead{commit: l}
	}
	for _, x := range ops {
		if e := w.op(x); e != api.OK {
			return nil, nil, nil, e
		}
	}
	fresh, e := w.commit(note)
	if e != api.OK {
		return nil, nil, nil, e
	}
	now := map[string]api.Link{}
	for name, h := range w.heads {
		now[name] = h.commit
	}
	var names []string
	for name := range w.ahead {
		if l, is := now[name]; !is || l != w.ahead[name] {
			names = append(names, name)
		}
	}
	for name := range now {
		if _, is := w.ahead[name]; !is {
			names = append(names, name)
		}
	}
	slices.Sort(names)
	return names, now, plainAdd(d.Store(), w.store, fresh), api.OK
}

// op carries out one op.
func (w plainWork) op(x api.Op) api.Errno {
	rest := x
	rest.Kind, rest.Head = 0, ""
	switch x.Kind {
	case api.OpSet:
		rest.Key, rest.Value = nil, api.Value{}
	case api.OpDelete:
		rest.Key = nil
	case api.OpAppend:
		rest.Key, rest.Samples = nil, nil
	case api.OpBranch:
		rest.Other = ""
	case api.OpDrop:
	case api.OpMerge:
		rest.Other = ""
		if x.Ours != x.Theirs {
			rest.Ours, rest.Theirs = false, false
		}
	default:
		return api.ErrDepotOp
	}
	if brief(rest) != brief(api.Op{}) || len(rest.Value.Keys) > 0 {
		return api.ErrDepotOp
	}
	if !plainName(x.Head) || !plainName(x.Other) && (x.Kind == api.OpBranch || x.Kind == api.OpMerge) {
		return api.ErrDepotName
	}
	switch x.Kind {
	case api.OpBranch, api.OpDrop:
		return w.name(x)
	case api.OpMerge:
		return w.merge(x)
	}
	return w.write(x)
}

// name carries out a branch or a drop.
func (w plainWork) name(x api.Op) api.Errno {
	_, there := w.heads[x.Head]
	if x.Kind == api.OpDrop {
		delete(w.heads, x.Head)
		if !there {
			return api.ErrDepotHead
		}
		return api.OK
	}
	l, ahead := w.ahead[x.Other]
	if there || !ahead {
		return api.ErrDepotHead
	}
	if len(w.heads) == 64 {
		return api.ErrDepotFull
	}
	w.heads[x.Head] = &plainHead{commit: l}
	return api.OK
}

// open opens a head.
func (w plainWork) open(name string) (*plainHead, api.Errno) {
	h, is := w.heads[name]
	if !is {
		return nil, api.ErrDepotHead
	}
	if h.root == (api.Link{}) {
		c, e := plainCommit(w.store, h.commit)
		if e != api.OK {
			return nil, e
		}
		h.root, h.from = c.Root, []api.Link{h.commit}
	}
	return h, api.OK
}

// begin begins a head.
func (w plainWork) begin(name string) (*plainHead, api.Errno) {
	if _, is := w.heads[name]; is {
		return w.open(name)
	}
	if len(w.heads) == 64 {
		return nil, api.ErrDepotFull
	}
	root, e := trie.New(w.store, w.plan.trie)
	h := &plainHead{root: root}
	w.heads[name] = h
	return h, e
}

// write carries out a set, a delete, an append.
func (w plainWork) write(x api.Op) api.Errno {
	if x.Kind == api.OpDelete {
		h, e := w.open(x.Head)
		if e == api.OK {
			h.root, _, e = trie.Delete(w.store, h.root, x.Key)
		}
		return e
	}
	h, e := w.begin(x.Head)
	if e != api.OK {
		return e
	}
	v := x.Value
	if x.Kind == api.OpAppend {
		if v, e = w.row(h.root, x); e != api.OK {
			return e
		}
	}
	h.root, e = trie.Set(w.store, h.root, x.Key, v)
	return e
}

// row: the value of a key to whose column samples have been appended.
func (w plainWork) row(root api.Link, x api.Op) (api.Value, api.Errno) {
	v, is, e := trie.Get(w.store, root, x.Key)
	if e != api.OK {
		return v, e
	}
	if is && v.Kind != api.KindLink {
		return v, api.ErrDepotRow
	}
	if !is {
		if v.Link, e = column.New(w.store, w.plan.column); e != api.OK {
			return v, e
		}
	}
	l, e := column.Append(w.store, v.Link, x.Samples...)
	return api.Value{Kind: api.KindLink, Link: l}, e
}

// merge carries out a merge.
func (w plainWork) merge(x api.Op) api.Errno {
	o, ahead := w.ahead[x.Other]
	if _, there := w.heads[x.Head]; !there || !ahead {
		return api.ErrDepotHead
	}
	h, e := w.open(x.Head)
	if e != api.OK {
		return e
	}
	mine, e := plainAncestors(w.store, h.from...)
	if e != api.OK {
		return e
	}
	their, e := plainAncestors(w.store, o)
	if _, is := mine.commits[o]; is || e != api.OK {
		return e
	}
	var both []api.Link
	for l := range mine.commits {
		if _, is := their.commits[l]; is {
			both = append(both, l)
		}
	}
	slices.SortFunc(both, func(a, b api.Link) int {
		if x, y := mine.commits[a].At, mine.commits[b].At; x != y {
			return int(y) - int(x)
		}
		if link.Less(a, b) {
			return -1
		}
		return 1
	})
	var base api.Link
	if len(both) > 0 {
		base = mine.commits[both[0]].Root
	} else {
		c, e := trie.Widths(w.store, h.root)
		if e != api.OK {
			return e
		}
		if base, e = trie.New(w.store, c); e != api.OK {
			return e
		}
	}
	root, keys, e := change.Merge(w.store, base, h.root, their.commits[o].Root, x.Theirs)
	if e == api.OK && len(keys) > 0 && x.Ours == x.Theirs {
		e = api.ErrDepotClash
	}
	h.root, h.from = root, append(h.from, o)
	return e
}

// commit makes the commits; they are told.
func (w plainWork) commit(note string) ([]api.Link, api.Errno) {
	var fresh []api.Link
	for _, name := range slices.Sorted(maps.Keys(w.heads)) {
		h := w.heads[name]
		if h.root == (api.Link{}) {
			continue
		}
		greatest := uint64(0)
		for _, l := range h.from {
			c, e := plainCommit(w.store, l)
			if e != api.OK {
				return nil, e
			}
			greatest = max(greatest, c.At)
		}
		if h.commit != (api.Link{}) {
			c, e := plainCommit(w.store, h.commit)
			if e != api.OK {
				return nil, e
			}
			if c.Root == h.root && len(h.from) == 1 && h.from[0] == h.commit {
				continue
			}
		}
		if greatest == 1<<40 {
			return nil, api.ErrDepotFull
		}
		l, e := w.store.Put(api.CodecTree, formOf(commitMap(greatest+1, h.from, note, h.root)))
		if e != api.OK {
			return nil, e
		}
		h.commit, fresh = l, append(fresh, l)
	}
	return fresh, api.OK
}

// plainAdd: a copy of a store, with the right blocks of another one to which a walk from some links comes there, and which are not right here.
func plainAdd(s, other *store.Store, from []api.Link) *store.Store {
	s = s.Copy()
	met := map[api.Link]int{}
	var come func(l api.Link)
	come = func(l api.Link) {
		met[l]++
		b, e := other.Get(l)
		if met[l] > 1 || e != api.OK {
			return
		}
		if l.Hash == api.HashSha {
			lays(s, l, b)
		}
		if v, f := read.Decode(b, api.MaxDepth); f.Code == api.OK && l.Version == 1 && l.Codec == api.CodecTree {
			for _, next := range value.Links(v) {
				come(next)
			}
		}
	}
	for _, l := range from {
		come(l)
	}
	return s
}

// does: Do, held against the plain reading: what it answers, and what the depot is behind it. The ops are as they were.
func does(t *testing.T, d *Depot, note string, ops ...api.Op) ([]string, api.Errno) {
	t.Helper()
	before := state(d)
	names, heads, blocks, bad := plainDo(d, note, ops)
	if state(d) != before {
		t.Fatalf("the plain reading has changed the depot")
	}
	want := before
	if bad == api.OK {
		want = fmt.Sprint(heads) + standing(blocks)
	}
	mine := again(ops)
	got, e := d.Do(note, mine...)
	if e != bad || !slices.Equal(got, names) {
		t.Fatalf("Do of %s: %q, %d; want %q, %d", brief(ops...), got, e, names, bad)
	}
	if state(d) != want {
		t.Fatalf("Do of %s: %q, %d; the depot is\n%s\nwant\n%s", brief(ops...), got, e, state(d), want)
	}
	if brief(mine...) != brief(ops...) {
		t.Fatalf("Do has changed its ops: %s; they were %s", brief(mine...), brief(ops...))
	}
	return got, e
}

// changes: a Do that is OK, and changes just these heads.
func changes(t *testing.T, d *Depot, want string, ops ...api.Op) {
	t.Helper()
	if names, e := does(t, d, "", ops...); e != api.OK || fmt.Sprint(names) != "["+want+"]" {
		t.Fatalf("Do of %s: %q, %d; want %q", brief(ops...), names, e, want)
	}
}

// refuses: a Do that is refused with that error.
func refuses(t *testing.T, d *Depot, want api.Errno, ops ...api.Op) {
	t.Helper()
	if names, e := does(t, d, "", ops...); e != want || names != nil {
		t.Fatalf("Do of %s: %q, %d; want %d", brief(ops...), names, e, want)
	}
}

// plainSweep: what stands in a store behind a Sweep, and how many blocks went.
func plainSweep(d *Depot) (*store.Store, int, api.Errno) {
	s := d.Store()
	there, lacking, e := walk.Reach(s, slices.Collect(maps.Values(commits(d)))...)
	if e != api.OK {
		return s, 0, e
	}
	for _, l := range lacking {
		if _, e := s.Get(l); e == api.ErrStoreNone {
			continue
		} else if e != api.OK {
			return s, 0, e
		}
		return s, 0, api.ErrWalkBlock
	}
	left, n := s.Copy(), 0
	for _, l := range s.Links() {
		if !slices.Contains(there, l) {
			left.Delete(l)
			n++
		}
	}
	return left, n, api.OK
}

// plainCheck: what Check tells.
func plainCheck(d *Depot) (int, api.Errno) {
	s := d.Store()
	var heads []api.Link
	for _, name := range d.Heads() {
		heads = append(heads, commits(d)[name])
	}
	p, e := plainAncestors(s, heads...)
	if e != api.OK {
		return 0, e
	}
	for _, l := range p.order {
		c, greatest := p.commits[l], uint64(0)
		for _, x := range c.From {
			greatest = max(greatest, p.commits[x].At)
		}
		if c.At != greatest+1 {
			return 0, api.ErrDepotBlock
		}
		if _, e := trie.Check(s, c.Root); e != api.OK {
			return 0, e
		}
		for x, e := range trie.All(s, c.Root) {
			if e != api.OK || x.Value.Kind != api.KindLink {
				continue
			}
			if _, e := column.Len(s, x.Value.Link); e != api.OK {
				continue
			}
			if _, e := column.Check(s, x.Value.Link); e != api.OK {
				return 0, e
			}
		}
	}
	return len(p.order), api.OK
}

// plainMay: why no head of that name may come.
func plainMay(d *Depot, name string) api.Errno {
	_, there := d.Head(name)
	switch {
	case !plainName(name):
		return api.ErrDepotName
	case there:
		return api.ErrDepotHead
	case len(d.Heads()) == 64:
		return api.ErrDepotFull
	}
	return api.OK
}

// plainImport: what an Import does to a depot's store, which is a copy, the head's commit, what is told.
func plainImport(s *store.Store, d *Depot, name string, b []byte) (api.Link, int, api.Fault) {
	if e := plainMay(d, name); e != api.OK {
		return api.Link{}, 0, api.Fault{Code: e}
	}
	a, f := archive.Read(b)
	if f.Code != api.OK {
		return api.Link{}, 0, f
	}
	inner, e := store.New(len(a.Blocks))
	if e == api.OK {
		_, e = inner.Add(a.Blocks...)
	}
	if e == api.OK {
		_, e = plainCommit(inner, a.Roots[0])
	}
	if e != api.OK || len(a.Roots) != 1 {
		return api.Link{}, 0, api.Fault{Code: api.ErrDepotBlock}
	}
	_, n, f := archive.Import(s, b)
	return a.Roots[0], n, f
}

// imports: Import, held against the plain reading.
func imports(t *testing.T, d *Depot, name string, b []byte) (int, api.Fault) {
	t.Helper()
	s, was := d.Store().Copy(), slices.Clone(b)
	l, want, bad := plainImport(s, d, name, b)
	after := commits(d)
	if bad.Code == api.OK {
		after[name] = l
	}
	n, f := d.Import(name, b)
	if n != want || f != bad || state(d) != fmt.Sprint(after)+standing(s) {
		t.Fatalf("Import of %q: %d, %v; want %d, %v; the depot is\n%s", name, n, f, want, bad, state(d))
	}
	if !slices.Equal(b, was) {
		t.Fatalf("Import has changed the archive")
	}
	return n, f
}

// fetches: Fetch, held against the plain reading.
func fetches(t *testing.T, d, from *Depot, their, name string, workers int) (int, api.Errno) {
	t.Helper()
	s, f, was := d.Store().Copy(), from.Store().Copy(), state(from)
	l, there := from.Head(their)
	want, bad := 0, plainMay(d, name)
	if bad != api.ErrDepotName && !there {
		bad = api.ErrDepotHead
	}
	if bad == api.OK {
		_, bad = plainCommit(f, l)
	}
	if bad == api.OK {
		want, bad = pull.Pull(s, f, []api.Link{l}, workers)
	}
	after := commits(d)
	if bad == api.OK {
		after[name] = l
	}
	n, e := d.Fetch(from, their, name, workers)
	if n != want || e != bad || state(d) != fmt.Sprint(after)+standing(s) {
		t.Fatalf("Fetch of %q as %q: %d, %d; want %d, %d; the depot is\n%s", their, name, n, e, want, bad, state(d))
	}
	if d != from && state(from) != was {
		t.Fatalf("Fetch of %q has changed the depot from which it fetches", their)
	}
	return n, e
}

// sweeps: Sweep, held against the plain reading.
func sweeps(t *testing.T, d *Depot) (int, api.Errno) {
	t.Helper()
	s, want, bad := plainSweep(d)
	after := fmt.Sprint(commits(d)) + standing(s)
	n, e := d.Sweep()
	if n != want || e != bad || state(d) != after {
		t.Fatalf("Sweep: %d, %d; want %d, %d; the depot is\n%s\nwant\n%s", n, e, want, bad, state(d), after)
	}
	return n, e
}

// checks: Check, held against the plain reading.
func checks(t *testing.T, d *Depot) (int, api.Errno) {
	t.Helper()
	want, bad := plainCheck(d)
	was := state(d)
	n, e := d.Check()
	if n != want || e != bad || state(d) != was {
		t.Fatalf("Check: %d, %d; want %d, %d", n, e, want, bad)
	}
	return n, e
}

// asks: what is told of a head, a key and a link, held against the plain reading; all of it as one text.
func asks(t *testing.T, d *Depot, name, key string) string {
	t.Helper()
	was, s := state(d), d.Store()
	l, there := d.Head(name)
	c, bad := plainCommit(s, l)
	if !there {
		bad = api.ErrDepotHead
	}
	got, is, e := d.Get(name, []byte(key))
	want, has, f := api.Value{}, false, bad
	if bad == api.OK {
		want, has, f = trie.Get(s, c.Root, []byte(key))
	}
	if !reflect.DeepEqual(got, want) || is != has || e != f {
		t.Fatalf("Get of %q in %q: %v, %v, %d; want %v, %v, %d", key, name, got, is, e, want, has, f)
	}
	text := fmt.Sprint(l, there, got, is, e)
	list, e := d.Entries(name)
	var all []api.Entry
	if f = bad; bad == api.OK {
		all, f = trie.Entries(s, c.Root)
	}
	if !reflect.DeepEqual(list, all) || e != f {
		t.Fatalf("Entries of %q: %v, %d; want %v, %d", name, list, e, all, f)
	}
	text += fmt.Sprint(list, e)
	one, e := d.Commit(l)
	two, f := plainCommit(s, l)
	if !reflect.DeepEqual(one, two) || e != f {
		t.Fatalf("Commit of %q: %v, %d; want %v, %d", name, one, e, two, f)
	}
	text += fmt.Sprint(one, e)
	for most := -1; most < 9; most++ {
		text += logs(t, d, name, most)
	}
	b, e := d.Export(name)
	if want, f := archive.Write(s, []api.Link{l}); there && (string(b) != string(want) || e != f) || !there && (b != nil || e != api.ErrDepotHead) {
		t.Fatalf("Export of %q: %x, %d; want %x, %d", name, b, e, want, f)
	}
	if state(d) != was {
		t.Fatalf("asking has changed the depot")
	}
	return text + fmt.Sprintf("%x %d", b, e)
}

// logs: Log, held against the plain reading; what it told as a text.
func logs(t *testing.T, d *Depot, name string, most int) string {
	t.Helper()
	l, there := d.Head(name)
	var want []api.Commit
	bad := api.OK
	if !there {
		bad = api.ErrDepotHead
	}
	for bad == api.OK && len(want) < most {
		c, e := plainCommit(d.Store(), l)
		if bad = e; e == api.OK {
			want = append(want, c)
		}
		if len(c.From) == 0 {
			break
		}
		l = c.From[0]
	}
	if bad != api.OK {
		want = nil
	}
	got, e := d.Log(name, most)
	if !reflect.DeepEqual(got, want) || e != bad {
		t.Fatalf("Log of %q, %d: %+v, %d; want %+v, %d", name, most, got, e, want, bad)
	}
	return fmt.Sprint(got, e)
}
