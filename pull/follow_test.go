package pull

// P20.2 to P20.4: on what the answer hangs; what follows; what is handed in.

import (
	"math"
	"runtime"
	"slices"
	"strconv"
	"testing"
	"time"

	"trellis/api"
	"trellis/column"
	"trellis/sample"
	"trellis/store"
	"trellis/trie"
	"trellis/walk"
)

// follows: behind a Pull that was OK: Reach tells there what it tells here, and nothing lacking; each block there is the one here; a second Pull lays none.
func follows(t *testing.T, to, from *store.Store, roots ...api.Link) {
	t.Helper()
	want, none, e := walk.Reach(from, roots...)
	there, lacking, f := walk.Reach(to, roots...)
	if e != api.OK || f != api.OK || len(none)+len(lacking) != 0 || !slices.Equal(there, want) {
		t.Fatalf("Reach tells %v, %v, %d; want %v, %v, %d", there, lacking, f, want, none, e)
	}
	for _, l := range there {
		b, e := from.Get(l)
		if got, f := to.Get(l); e != api.OK || f != api.OK || string(got) != string(b) {
			t.Fatalf("%v: %x, %d; want %x, %d", l, got, f, b, e)
		}
	}
	lays(t, "a second Pull", to, from, 0, roots...)
	lays(t, "back", from, to, 0, roots...)
}

// TestFollows: P20.3, whatever the stores and the roots.
func TestFollows(t *testing.T) {
	done := 0
	for seed := range 300 {
		d := sample.Dice(seed)
		from, pool := anyWorld(t, &d)
		to := anyTo(t, &d, from)
		beside := to.Copy()
		roots := anyRoots(&d, pool)
		if _, e := pulls(t, to, from, roots...); e != api.OK {
			continue
		}
		follows(t, to, from, roots...)
		// Nothing has gone, and nothing has come but what is reached.
		all, _, _ := walk.Reach(from, roots...)
		for _, l := range slices.Concat(beside.Links(), to.Links()) {
			if !to.Has(l) || !beside.Has(l) && !slices.Contains(all, l) {
				t.Fatalf("seed %d: %v", seed, l)
			}
		}
		done += len(all)
	}
	if done < 300 {
		t.Errorf("%d blocks: too few to tell", done)
	}
}

// TestOneBehindTheOther: P20.3, one root behind the other, and all of them at once: the same stores; a row of stores hands on all.
func TestOneBehindTheOther(t *testing.T) {
	for seed := range 100 {
		d := sample.Dice(seed)
		from, pool := anyWorld(t, &d)
		once, single := made(t, 1000), made(t, 1000)
		n, e := pulls(t, once, from, pool...)
		sum := 0
		for _, l := range pool {
			k, f := pulls(t, single, from, l)
			if f != api.OK {
				t.Fatalf("seed %d: %d", seed, f)
			}
			sum += k
		}
		if e != api.OK || n != sum || standing(once) != standing(single) {
			t.Fatalf("seed %d: %d, %d; one behind the other %d", seed, n, e, sum)
		}
		next := made(t, 1000)
		lays(t, "handed on", next, once, n, pool...)
		follows(t, next, from, pool...)
	}
}

// row32: so many samples.
func row32(n int) []float32 {
	var all []float32
	for i := range n {
		all = append(all, float32(i*i%97)-0.25)
	}
	return all
}

// twice: what two calls answer, as it is told by each of two stores, is one.
func twice[T comparable](t *testing.T, what string, to, from *store.Store, call func(*store.Store) (T, api.Errno)) {
	t.Helper()
	want, e := call(from)
	if got, f := call(to); got != want || f != e || e != api.OK {
		t.Errorf("%s: %v, %d; want %v, %d", what, got, f, want, e)
	}
}

// TestColumns: P20.3, a column's root answers there as here, and grows there as here.
func TestColumns(t *testing.T) {
	for _, n := range []int{0, 1, 2, 5, 100, 1000} {
		from, to := made(t, api.MaxBlocks), made(t, api.MaxBlocks)
		empty, e := column.New(from, 1+n%3)
		if e != api.OK {
			t.Fatal(e)
		}
		root, e := column.Append(from, empty, row32(n)...)
		if e != api.OK {
			t.Fatal(e)
		}
		if _, e := pulls(t, to, from, root); e != api.OK {
			t.Fatal(n, e)
		}
		follows(t, to, from, root)
		twice(t, "Check", to, from, func(s *store.Store) (int, api.Errno) { return column.Check(s, root) })
		twice(t, "Width", to, from, func(s *store.Store) (int, api.Errno) { return column.Width(s, root) })
		for cut := range min(n, 20) {
			twice(t, "Sum", to, from, func(s *store.Store) (float64, api.Errno) { return column.Sum(s, root, cut, n) })
		}
		if all, e := column.Slice(to, root, 0, n); e != api.OK || !slices.Equal(all, row32(n)) {
			t.Errorf("%d samples: %v, %d", n, all, e)
		}
		twice(t, "Append", to, from, func(s *store.Store) (api.Link, api.Errno) { return column.Append(s, root, 1, 2, 3) })
	}
}

// TestTries: P20.3, a trie's root answers there as here, and is changed there as here; columns that its values name come, too.
func TestTries(t *testing.T) {
	for _, c := range []api.Trie{{Width: 1, Bucket: 1, Bytes: 32}, {Width: 4, Bucket: 2, Bytes: 8}, {Width: 8, Bucket: 16, Bytes: 1}} {
		from, to := made(t, api.MaxBlocks), made(t, api.MaxBlocks)
		empty, e := column.New(from, 2)
		if e != api.OK {
			t.Fatal(e)
		}
		var in []api.Entry
		for i := range 60 {
			v := sample.List(sample.Whole(uint64(i)), named(raw(from, strconv.Itoa(i))))
			if i%5 == 0 {
				l, e := column.Append(from, empty, row32(i)...)
				if e != api.OK {
					t.Fatal(e)
				}
				v = named(l)
			}
			in = append(in, api.Entry{Key: []byte(strconv.Itoa(i)), Value: v})
		}
		root, e := trie.New(from, c)
		if e != api.OK {
			t.Fatal(e)
		}
		if root, e = trie.Apply(from, root, nil, in); e != api.OK {
			t.Fatal(e)
		}
		if n, e := pulls(t, to, from, root); e != api.OK || n < 60 {
			t.Fatal(n, e)
		}
		follows(t, to, from, root)
		twice(t, "Check", to, from, func(s *store.Store) (int, api.Errno) { return trie.Check(s, root) })
		twice(t, "Widths", to, from, func(s *store.Store) (api.Trie, api.Errno) { return trie.Widths(s, root) })
		for _, x := range in {
			v, is, e := trie.Get(to, root, x.Key)
			if e != api.OK || !is || form(v) != form(x.Value) {
				t.Errorf("%s: %v, %d", x.Key, is, e)
			}
			if v.Kind == api.KindLink {
				twice(t, "a column", to, from, func(s *store.Store) (int, api.Errno) { return column.Check(s, v.Link) })
			}
		}
		if all, e := trie.Entries(to, root); e != api.OK || len(all) != len(in) {
			t.Errorf("%d entries, %d", len(all), e)
		}
		twice(t, "Set", to, from, func(s *store.Store) (api.Link, api.Errno) { return trie.Set(s, root, []byte("7"), sample.Null()) })
	}
}

// TestEarlierRoots: P20.3, of two roots of a trie the second one brings what the first one has not brought alone, and both answer.
func TestEarlierRoots(t *testing.T) {
	from, to := made(t, api.MaxBlocks), made(t, api.MaxBlocks)
	first, e := trie.New(from, api.Trie{Width: 2, Bucket: 1, Bytes: 32})
	if e != api.OK {
		t.Fatal(e)
	}
	for i := range 200 {
		if first, e = trie.Set(from, first, []byte(strconv.Itoa(i)), sample.Whole(uint64(i))); e != api.OK {
			t.Fatal(e)
		}
	}
	second, e := trie.Set(from, first, []byte("5"), sample.Null())
	if e != api.OK {
		t.Fatal(e)
	}
	all, _ := pulls(t, to, from, first)
	some, _ := pulls(t, to, from, second)
	if all < 50 || some < 2 || some > 12 {
		t.Errorf("%d blocks, then %d", all, some)
	}
	follows(t, to, from, first, second)
	for l, want := range map[api.Link]int{first: api.KindInt, second: api.KindNull} {
		if v, is, e := trie.Get(to, l, []byte("5")); e != api.OK || !is || v.Kind != want {
			t.Errorf("%v, %v, %d", v, is, e)
		}
	}
}

// left: how many goroutines there are, when those that were about to end have ended; it waits for so few, but not for ever.
func left(few int) int {
	for range 1000 {
		if runtime.NumGoroutine() <= few {
			break
		}
		time.Sleep(5 * time.Millisecond)
	}
	return runtime.NumGoroutine()
}

// TestNobodyIsLeft: P20.2, all workers have ended when Pull answers, whatever it answers.
func TestNobodyIsLeft(t *testing.T) {
	from, all := family(t)
	lost, bad := under(api.CodecTree, "lost"), under(api.CodecTree, "bad")
	force(from, bad)
	some := many(t, made(t, 100), 100)
	before := runtime.NumGoroutine()
	for _, roots := range [][]api.Link{nil, all, some, links(lost), links(bad, lost), slices.Concat(some, all, links(bad)), links(api.Link{})} {
		for workers := range api.MaxWorkers + 2 {
			for range 20 {
				Pull(made(t, 4), from, roots, workers)
				Pull(made(t, 1), from, roots, workers)
			}
		}
	}
	if n := left(before); n > before {
		t.Errorf("%d goroutines; there were %d", n, before)
	}
}

// TestProcessors: P20.2, on however many processors, again and again.
func TestProcessors(t *testing.T) {
	defer runtime.GOMAXPROCS(runtime.GOMAXPROCS(0))
	for _, n := range []int{1, 2, 16} {
		runtime.GOMAXPROCS(n)
		for seed := range 40 {
			d := sample.Dice(seed)
			from, pool := anyWorld(t, &d)
			pool = spoil(&d, from, pool)
			pulls(t, anyTo(t, &d, from), from, anyRoots(&d, pool)...)
			pulls(t, made(t, 1000), from, pool...)
		}
	}
}

// TestRootsHandedIn: P20.4 and R2, roots are neither changed nor kept, their spare room too.
func TestRootsHandedIn(t *testing.T) {
	for seed := range 100 {
		d := sample.Dice(seed)
		from, pool := anyWorld(t, &d)
		some := append(anyRoots(&d, pool), pool[len(pool)-1])
		roots := append(make([]api.Link, 0, len(some)+100), some...)
		for i := len(roots); i < cap(roots); i++ {
			roots[:cap(roots)][i] = old("spare")
		}
		was := slices.Clone(roots[:cap(roots)])
		for workers := 1; workers <= api.MaxWorkers; workers++ {
			to, other := made(t, 1000), made(t, 1000)
			n, e := Pull(to, from, roots, workers)
			if e != api.OK || !slices.Equal(roots[:cap(roots)], was) {
				t.Fatalf("seed %d: the roots have changed: %d", seed, e)
			}
			again := slices.Clone(roots)
			clear(roots[:cap(roots)])
			if k, e := Pull(other, from, again, workers); k != n || e != api.OK || standing(other) != standing(to) {
				t.Fatalf("seed %d: the roots were written over, and others come: %d, %d", seed, k, e)
			}
			copy(roots[:cap(roots)], was)
		}
	}
}

// TestApart: P20.4 and R2, the two stores have nothing in common behind a Pull.
func TestApart(t *testing.T) {
	from, all := family(t)
	to := made(t, 5)
	lays(t, "all", to, from, 4, all[3])
	was, other := standing(from), standing(to)
	force(to, all[0])
	to.Delete(all[1])
	raw(to, "beside")
	if standing(from) != was {
		t.Errorf("the first store changes with the other one")
	}
	to = made(t, 5)
	lays(t, "all again", to, from, 4, all[3])
	force(from, all[0])
	from.Delete(all[1])
	if standing(to) != other {
		t.Errorf("the other store changes with the first one")
	}
	lays(t, "both are lacking what the other one has", from, to, 2, all[3])
}

// TestEnds: P20.4 and R3, whatever is handed in, with stores full and empty, forged and broken.
func TestEnds(t *testing.T) {
	from, all := family(t)
	for _, l := range all {
		force(from, l)
	}
	full := made(t, 1)
	raw(full, "beside")
	strange := append(wrongLinks(), api.Link{Version: math.MinInt, Codec: math.MaxUint64, Hash: math.MaxUint64, Digest: string(make([]byte, 1000))}, old(""), itself(api.CodecTree, "\x9b\xff\xff\xff\xff\xff\xff\xff\xff"), itself(api.CodecTree, "\xd8\x2a"), itself(7, ""))
	for _, to := range []*store.Store{from, full, made(t, 1), made(t, api.MaxBlocks)} {
		for _, s := range []*store.Store{from, full, made(t, 1)} {
			for i := range strange {
				pulls(t, to, s, strange[i])
				pulls(t, to, s, strange[i:]...)
				pulls(t, to, s, slices.Concat(all, strange[i:])...)
			}
		}
	}
}
