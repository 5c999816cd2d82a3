package depot

// P21.9 to P21.15: what follows, whatever is done.

import (
	"fmt"
	"maps"
	"math"
	"slices"
	"testing"

	"trellis/api"
	"trellis/sample"
	"trellis/store"
	"trellis/trie"
	"trellis/walk"
)

// names: those of the heads of scripts.
func names() []string { return []string{"a", "b", "c", "main", "work"} }

func pick[T any](d *sample.Dice, list []T) T { return list[d.Below(len(list))] }

// anyKey: one of few keys, so that ops meet.
func anyKey(d *sample.Dice) []byte { return fmt.Append(nil, "k", d.Below(9)) }

// anyOp: some op, which most often may be, where there are such heads.
func anyOp(d *sample.Dice, heads []string, pool []api.Link) api.Op {
	kinds := []int{api.OpSet, api.OpSet, api.OpSet, api.OpDelete, api.OpAppend, api.OpAppend, api.OpBranch, api.OpMerge, api.OpMerge, api.OpDrop}
	x := api.Op{Kind: pick(d, kinds), Head: pick(d, names())}
	if len(heads) == 0 || d.Below(9) == 0 {
		heads = names()
	}
	if x.Kind != api.OpBranch {
		x.Head = pick(d, heads)
	}
	switch x.Kind {
	case api.OpSet:
		x.Head = pick(d, append(heads, pick(d, names())))
		x.Key, x.Value = anyKey(d), sample.Whole(uint64(d.Below(4)))
		if d.Below(6) == 0 && len(pool) > 0 {
			x.Value = linked(pick(d, pool))
		} else if d.Below(6) == 0 {
			x.Value = d.Tree(2)
		}
	case api.OpDelete:
		x.Key = anyKey(d)
	case api.OpAppend:
		x.Key = fmt.Append(nil, "row", d.Below(3))
		for range d.Below(5) {
			x.Samples = append(x.Samples, float32(d.Below(9)))
		}
	case api.OpBranch, api.OpMerge:
		x.Other = pick(d, heads)
		x.Ours = x.Kind == api.OpMerge && d.Below(3) == 0
		x.Theirs = x.Kind == api.OpMerge && !x.Ours && d.Below(2) == 0
	}
	return x
}

// wrongOp: an op that may not be, most often.
func wrongOp(d *sample.Dice, x api.Op) api.Op {
	switch d.Below(8) {
	case 0:
		x.Kind = d.Below(9) - 1
	case 1:
		x.Head = pick(d, []string{"", "\xff", "none", "new"})
	case 2:
		x.Other = pick(d, []string{"", "\xff", "none", "a"})
	case 3:
		x.Key = append(x.Key, make([]byte, api.MaxKey)...)
	case 4:
		x.Value = d.Touched(x.Value)
	case 5:
		x.Samples = append(x.Samples, float32(math.Inf(1)))
	case 6:
		x.Ours = !x.Ours
	default:
		x.Theirs = !x.Theirs
	}
	return x
}

// anyOps: some ops, one behind the other.
func anyOps(d *sample.Dice, heads []string, pool []api.Link, wrong int) []api.Op {
	var ops []api.Op
	for range d.Below(5) {
		x := anyOp(d, heads, pool)
		if d.Below(wrong) == 0 {
			x = wrongOp(d, x)
		}
		ops = append(ops, x)
	}
	return ops
}

// spoils breaks a block, mends one, or lays one of its own.
func spoils(d *sample.Dice, s *store.Store, all map[api.Link]string) {
	links := s.Links()
	for _, l := range links {
		if b, e := s.Get(l); e == api.OK {
			all[l] = string(b)
		}
	}
	known := slices.SortedFunc(maps.Keys(all), func(a, b api.Link) int { return slices.Compare([]byte(a.Digest), []byte(b.Digest)) })
	if len(known) == 0 {
		return
	}
	l := pick(d, known)
	switch d.Below(5) {
	case 0:
		s.Delete(l)
	case 1:
		s.Force(l, []byte("forced"))
	case 2:
		put(s, naming(l, pick(d, known)))
	default:
		for _, l := range known {
			if d.Below(3) > 0 && s.Len() < s.Room() {
				s.Add(api.Block{Link: l, Bytes: []byte(all[l])})
			}
		}
	}
}

// TestScripts: P21.2, P21.5 to P21.10, P21.15, whatever is done, in whatever stores: all calls are held against the plain reading.
func TestScripts(t *testing.T) {
	done, refused, errors := 0, 0, map[api.Errno]int{}
	for seed := range 150 {
		d := sample.Dice(seed)
		x := madeOf(t, 40+d.Below(300), pick(&d, []api.Trie{wide, narrow, {Width: 3, Bucket: 2, Bytes: 2}}), 1+d.Below(3))
		other := madeOf(t, 300, wide, 1)
		all, broken := map[api.Link]string{}, seed%3 == 0
		for range 25 {
			was := x.Heads()
			got, e := does(t, x, fmt.Sprint(d.Below(3)), anyOps(&d, x.Heads(), x.Store().Links(), 12)...)
			errors[e]++
			if e == api.OK {
				done += len(got)
			} else if refused++; !slices.Equal(was, x.Heads()) {
				t.Fatalf("seed %d: heads have changed beside an error", seed)
			}
			switch d.Below(12) {
			case 0:
				sweeps(t, x)
			case 1:
				checks(t, x)
			case 2:
				fetches(t, other, x, pick(&d, names()), pick(&d, names()), 1+d.Below(8))
			case 3:
				fetches(t, x, other, pick(&d, names()), pick(&d, names()), 1+d.Below(8))
			case 4:
				if b, e := other.Export(pick(&d, names())); e == api.OK {
					imports(t, x, pick(&d, names()), b)
				}
			case 5:
				does(t, other, "other", anyOps(&d, other.Heads(), nil, 50)...)
			case 6, 7:
				if broken {
					spoils(&d, x.Store(), all)
				}
			default:
				asks(t, x, pick(&d, names()), string(anyKey(&d)))
			}
		}
	}
	if done < 1000 || refused < 500 || len(errors) < 12 {
		t.Errorf("%d, %d, %v: too few to tell", done, refused, errors)
	}
}

// states: what heads answered when a commit was theirs.
type states map[api.Link]string

// see keeps what all heads of a depot answer now; what is known of a commit is held against it.
func (s states) see(t *testing.T, d *Depot) {
	t.Helper()
	for _, name := range d.Heads() {
		l, text := headOf(t, d, name), entries(t, d, name)
		if was, is := s[l]; is && was != text {
			t.Fatalf("%v: %s, and it was %s", l, text, was)
		}
		s[l] = text
	}
}

// again looks whether each commit of all Logs still answers as its head did.
func (s states) again(t *testing.T, d *Depot) int {
	t.Helper()
	n := 0
	for _, name := range d.Heads() {
		log, e := d.Log(name, math.MaxInt)
		if e != api.OK {
			t.Fatalf("Log of %s: %d", name, e)
		}
		l := headOf(t, d, name)
		for i, c := range log {
			list, e := trie.Entries(d.Store(), c.Root)
			if was, is := s[l]; !is || e != api.OK || told(list) != was {
				t.Fatalf("%s, %d back: %s, %d; it was %s", name, i, told(list), e, was)
			}
			n++
			for _, p := range c.From {
				if q, e := d.Commit(p); e != api.OK || q.At >= c.At {
					t.Fatalf("%s, %d back: a parent's number: %d, %d; its own %d", name, i, q.At, e, c.At)
				}
			}
			if len(c.From) > 0 {
				l = c.From[0]
			}
		}
	}
	return n
}

// TestHistories: P21.11, whatever Sweeps there were; P21.12: behind one just what heads reach stands there.
func TestHistories(t *testing.T) {
	seen := 0
	for seed := range 60 {
		d := sample.Dice(1000 + seed)
		x, known := madeOf(t, 2000, pick(&d, []api.Trie{wide, narrow}), 2), states{}
		for range 40 {
			x.Do(fmt.Sprint(d.Below(3)), anyOps(&d, x.Heads(), nil, 50)...)
			known.see(t, x)
			if d.Below(6) == 0 {
				was := fmt.Sprint(commits(x), known.again(t, x))
				n, e := checks(t, x)
				sweeps(t, x)
				there, _, _ := walk.Reach(x.Store(), slices.Collect(maps.Values(commits(x)))...)
				if !slices.Equal(x.Store().Links(), there) {
					t.Fatalf("seed %d: %v stands, %v is reached", seed, x.Store().Links(), there)
				}
				if k, f := checks(t, x); k != n || f != e || e != api.OK || fmt.Sprint(commits(x), known.again(t, x)) != was {
					t.Fatalf("seed %d: a Sweep has changed what is told: %d, %d; %d, %d", seed, n, e, k, f)
				}
				swept(t, x, 0)
			}
		}
		seen += known.again(t, x)
	}
	if seen < 500 {
		t.Errorf("%d: too few to tell", seen)
	}
}

// model: heads by what they hold, the chapter's ops without their histories: sets and deletes alone.
type model map[string]map[string]uint64

// TestRoots: P21.14, two heads, of one depot or two, have one root just if their entries are the same, whatever was done.
func TestRoots(t *testing.T) {
	roots, texts := map[api.Link]string{}, map[string]api.Link{}
	met := 0
	for seed := range 60 {
		d := sample.Dice(2000 + seed)
		x := madeOf(t, 2000, narrow, 2)
		for range 30 {
			x.Do("", anyOps(&d, x.Heads(), nil, 50)...)
			if d.Below(9) == 0 {
				x.Sweep()
			}
			for _, name := range x.Heads() {
				root, text := top(t, x, name).Root, entries(t, x, name)
				was, is := roots[root]
				if l, has := texts[text]; is != has || is && (was != text || l != root) {
					t.Fatalf("seed %d: %v has %s; known: %v, %s", seed, root, text, l, was)
				}
				if is {
					met++
				}
				roots[root], texts[text] = text, root
			}
		}
	}
	if len(roots) < 500 || met < 500 {
		t.Errorf("%d roots, %d met: too few to tell", len(roots), met)
	}
}

// TestModel: P21.2, sets and deletes, branches and drops, by a map of maps.
func TestModel(t *testing.T) {
	for seed := range 60 {
		d := sample.Dice(3000 + seed)
		x, now := made(t, 3000), model{}
		for range 30 {
			ahead := now
			now = model{}
			for name, m := range ahead {
				now[name] = maps.Clone(m)
			}
			var ops []api.Op
			for range d.Below(6) {
				op := anyOp(&d, x.Heads(), nil)
				if !now.takes(ahead, op) {
					continue
				}
				ops = append(ops, op)
			}
			if _, e := does(t, x, "", ops...); e != api.OK {
				t.Fatalf("seed %d: %s: %d", seed, brief(ops...), e)
			}
			if got := x.Heads(); !slices.Equal(got, slices.Sorted(maps.Keys(now))) {
				t.Fatalf("seed %d: %q", seed, got)
			}
			for name, m := range now {
				l, e := x.Entries(name)
				if e != api.OK || len(l) != len(m) {
					t.Fatalf("seed %d: %s: %v, %d; want %v", seed, name, l, e, m)
				}
				for _, y := range l {
					if n, has := m[string(y.Key)]; !has || n != y.Value.N {
						t.Fatalf("seed %d: %s: %v; want %v", seed, name, l, m)
					}
				}
			}
		}
	}
}

// takes carries an op out on the maps; false, if it would be refused or is of another kind than they know.
func (m model) takes(ahead model, x api.Op) bool {
	mine, there := m[x.Head]
	other, was := ahead[x.Other]
	switch {
	case x.Kind == api.OpSet && x.Value.Kind == api.KindInt && !x.Value.Neg:
		if !there {
			mine = map[string]uint64{}
			m[x.Head] = mine
		}
		mine[string(x.Key)] = x.Value.N
	case x.Kind == api.OpDelete && there:
		delete(mine, string(x.Key))
	case x.Kind == api.OpBranch && !there && was:
		m[x.Head] = maps.Clone(other)
	case x.Kind == api.OpDrop && there:
		delete(m, x.Head)
	default:
		return false
	}
	return true
}

// TestWhole: P21.9, P21.10: a Do of many ops that is refused at any of them leaves all as it was; one that is OK makes one commit for each head.
func TestWhole(t *testing.T) {
	d, _ := rich(t)
	good := []api.Op{set("main", "k", 1), row("side", "row", 9), del("main", "key0"), set("new", "k", 1), branch("twig", "main"), set("main", "k", 2), set("twig", "k", 3), set("side", "key1", 77), merge("main", "side"), drop("new")}
	bad := map[api.Errno]api.Op{
		api.ErrDepotHead: drop("none"), api.ErrDepotOp: {}, api.ErrDepotName: set("", "k", 1), api.ErrDepotRow: row("main", "key1", 1), api.ErrTrieValue: setTo("main", "k", api.Value{}),
		api.ErrColumnSample: row("main", "row", float32(math.NaN())), api.ErrStoreNone: row("side", "lost", 1),
	}
	changes(t, d, "side", setTo("side", "lost", linked(lost("x"))))
	for i := range len(good) + 1 {
		for want, x := range bad {
			refuses(t, d, want, slices.Insert(slices.Clone(good), i, x)...)
		}
	}
	x := twin(d)
	before := map[string]api.Commit{"main": top(t, d, "main"), "side": top(t, d, "side")}
	changes(t, x, "main side twig", good...)
	for name, c := range before {
		if now := top(t, x, name); now.From[0] != headOf(t, d, name) || now.At <= c.At {
			t.Errorf("%s: %+v", name, now)
		}
	}
	// The room for all but the last of the blocks that are made on the way.
	least := 0
	for room := d.Store().Len(); least == 0; room++ {
		x := moved(t, d, room)
		if _, e := does(t, x, "", good...); e == api.OK {
			least = room
		} else if e != api.ErrStoreFull {
			t.Fatalf("room for %d: %d", room, e)
		}
	}
	if least <= x.Store().Len() {
		t.Errorf("%d blocks of room, %d blocks", least, x.Store().Len())
	}
}

// TestMended: blocks that were lost or forced, and that a Do makes again, are added where a walk comes to them from its new commits, even through old blocks; others are not.
func TestMended(t *testing.T) {
	for _, spoil := range []func(*store.Store, api.Link){func(s *store.Store, l api.Link) { s.Delete(l) }, force} {
		d := made(t, 1000)
		changes(t, d, "main", set("main", "k", 1))
		first := top(t, d, "main").Root
		changes(t, d, "main", set("main", "l", 2))
		spoil(d.Store(), first)
		x := twin(d)
		// The map of the first commit is made on the way: it is no root of a new one, but the old one is behind it.
		changes(t, x, "main", del("main", "l"), set("main", "m", 3))
		if _, e := x.Store().Get(first); e != api.OK {
			t.Errorf("what an old commit names was not mended: %d", e)
		}
		x = twin(d)
		changes(t, x, "new", set("new", "k", 1), set("new", "m", 3))
		if _, e := x.Store().Get(first); e == api.OK {
			t.Errorf("what no new commit comes to was mended")
		}
		x = twin(d)
		changes(t, x, "new", set("new", "k", 1))
		if _, e := x.Store().Get(first); e != api.OK {
			t.Errorf("what a new commit names was not mended: %d", e)
		}
		x = twin(d)
		changes(t, x, "", set("new", "k", 1), drop("new"))
		refuses(t, x, api.ErrDepotHead, set("new", "k", 1), drop("none"))
		if _, e := x.Store().Get(first); e == api.OK {
			t.Errorf("what was made on the way was mended")
		}
	}
	// What a value names, a tree that was lost: the Do makes it, since it is a trie's root, too.
	d := made(t, 1000)
	other := trieOf(t, made(t, 1000).Store(), wide, "a1")
	changes(t, d, "main", setTo("main", "link", linked(other)))
	changes(t, d, "main", set("main", "k", 1), set("x", "a", 1), drop("x"))
	if _, e := d.Store().Get(other); e != api.OK {
		t.Errorf("what a value names was not added: %d", e)
	}
	// By a link that holds the tree itself, which names what is made on the way.
	holds := itself(api.CodecTree, formOf(naming(trieOf(t, made(t, 1000).Store(), wide, "b2"))))
	changes(t, d, "main", setTo("main", "link", linked(holds)), set("y", "b", 2), drop("y"))
	if l := trieOf(t, made(t, 1000).Store(), wide, "b2"); !d.Store().Has(l) {
		t.Errorf("what a link names that holds a tree was not added")
	}
	// A raw block leads nowhere.
	raw := formOf(naming(trieOf(t, made(t, 1000).Store(), wide, "c3")))
	l := lays(d.Store(), under(api.CodecRaw, raw), raw)
	changes(t, d, "main", setTo("main", "link", linked(l)), set("z", "c", 3), drop("z"))
	if l := trieOf(t, made(t, 1000).Store(), wide, "c3"); d.Store().Has(l) {
		t.Errorf("a walk has gone on behind a raw block")
	}
}

// TestKept: R2, what is handed in is not kept: ops, archives.
func TestKept(t *testing.T) {
	d := made(t, 1000)
	v := sample.Map("x y", sample.List(api.Value{Kind: api.KindBytes, Bytes: []byte("bytes")}), sample.Text("text"))
	ops := again([]api.Op{setTo("main", "key", v), row("main", "row", 1, 2, 3), set("side", "key", 1)})
	if _, e := d.Do("", ops...); e != api.OK {
		t.Fatal(e)
	}
	b, _ := d.Export("main")
	other := made(t, 1000)
	if _, f := other.Import("main", b); f.Code != api.OK {
		t.Fatal(f)
	}
	was, there := state(d), state(other)
	text := asks(t, d, "main", "key")
	for _, x := range ops {
		clear(x.Key)
		clear(x.Samples)
		clear(x.Value.Keys)
		for _, y := range x.Value.Items {
			clear(y.Items)
		}
		clear(x.Value.Items)
	}
	clear(ops)
	clear(b)
	if state(d) != was || state(other) != there || asks(t, d, "main", "key") != text {
		t.Errorf("what was handed in was kept")
	}
	changes(t, d, "main", row("main", "row", 4))
	if l := samples(t, d, "main", "row"); !slices.Equal(l, []float32{1, 2, 3, 4}) {
		t.Errorf("%v", l)
	}
}

// TestApart: two depots have nothing in common, be one fetched out of the other.
func TestApart(t *testing.T) {
	d, _ := rich(t)
	other := madeOf(t, 1000, narrow, 1)
	for _, name := range d.Heads() {
		if _, e := fetches(t, other, d, name, name, 2); e != api.OK {
			t.Fatal(e)
		}
	}
	was := state(other)
	changes(t, d, "main side", set("main", "k", 9), drop("side"))
	d.Sweep()
	for _, l := range d.Store().Links() {
		force(d.Store(), l)
	}
	if state(other) != was {
		t.Errorf("one depot has changed another")
	}
	here := state(d)
	changes(t, other, "main new side", drop("main"), set("side", "k", 1), set("new", "k", 1))
	other.Sweep()
	if state(d) != here {
		t.Errorf("one depot has changed another")
	}
}

// TestLongHistory: a row of commits that no recursion could follow: by merges, checks, sweeps.
func TestLongHistory(t *testing.T) {
	d := madeOf(t, api.MaxBlocks, wide, 4)
	s, n := d.Store(), uint64(20000)
	root := trieOf(t, s, wide, "a1")
	var from []api.Link
	for i := range n {
		from = []api.Link{put(s, commitMap(i+1, from, "", root))}
	}
	brings(t, d, "main", s.Copy(), from[0])
	if k, e := d.Check(); k != int(n) || e != api.OK {
		t.Errorf("Check: %d, %d", k, e)
	}
	if log, e := d.Log("main", math.MaxInt); len(log) != int(n) || log[n-1].At != 1 || e != api.OK {
		t.Errorf("Log: %d, %d", len(log), e)
	}
	names, e := d.Do("", set("new", "b", 2), merge("new", "main"))
	if c := top(t, d, "new"); e != api.OK || !slices.Equal(names, []string{"new"}) || c.At != n+1 {
		t.Errorf("Do: %q, %d; %+v", names, e, c)
	}
	if k, e := d.Sweep(); k != 1 || e != api.OK {
		t.Errorf("Sweep: %d, %d", k, e)
	}
}
