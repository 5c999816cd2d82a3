package column

// Samples and stores for the tests, and calls that are held against the plain reading.

import (
	"bytes"
	"fmt"
	"maps"
	"math"
	"testing"

	"trellis/api"
	"trellis/lay"
	"trellis/sample"
	"trellis/store"
)

var (
	inf   = float32(math.Inf(1))
	none  = float32(math.NaN())
	minus = float32(math.Copysign(0, -1))
)

// anySample tells a sample: noughts, the least and the greatest amounts, such whose sums hang on the order, any bits.
func anySample(d *sample.Dice) float32 {
	pool := []float32{0, minus, 1, -1, 1.5, -0.25, 0.1, 1 << 53, -(1 << 53), 1 << 24, math.MaxFloat32, -math.MaxFloat32, math.SmallestNonzeroFloat32, -math.SmallestNonzeroFloat32}
	if i := d.Below(2 * len(pool)); i < len(pool) {
		return pool[i]
	}
	for {
		if x := math.Float32frombits(uint32(d.Next())); finite(x) {
			return x
		}
	}
}

// anySamples tells so many samples.
func anySamples(d *sample.Dice, n int) []float32 {
	var l []float32
	for range n {
		l = append(l, anySample(d))
	}
	return l
}

// made: a store with room for so many blocks.
func made(t *testing.T, room int) *store.Store {
	t.Helper()
	s, e := store.New(room)
	if e != api.OK {
		t.Fatal(e)
	}
	return s
}

// begun: a store with room, and an empty column.
func begun(t *testing.T, width int) (*store.Store, api.Link) {
	t.Helper()
	s := made(t, 5000)
	l, e := New(s, width)
	if e != api.OK {
		t.Fatalf("New(%d): %d", width, e)
	}
	return s, l
}

// filled: a store with room, in which the blocks of a column stand, made plainly.
func filled(t *testing.T, width int, samples ...float32) (*store.Store, api.Link) {
	t.Helper()
	s := made(t, 5000)
	blocks := map[api.Link]string{}
	root := columnOf(blocks, width, samples)
	laidAll(s, blocks)
	return s, root
}

// appends: Append, which is not refused.
func appends(t *testing.T, s *store.Store, root api.Link, samples ...float32) api.Link {
	t.Helper()
	l, e := Append(s, root, samples...)
	if e != api.OK {
		t.Fatalf("Append of %d: %d", len(samples), e)
	}
	return l
}

// laidAll lays blocks into a store, whatever stands there.
func laidAll(s *store.Store, blocks map[api.Link]string) {
	for l, b := range blocks {
		if e := s.Force(l, []byte(b)); e != api.OK {
			panic(e)
		}
	}
}

// standing: what stands in a store, right or not.
func standing(s *store.Store) map[api.Link]string {
	all := map[api.Link]string{}
	for _, l := range s.Links() {
		b, e := s.Get(l)
		all[l] = string(b)
		if e != api.OK {
			all[l] = fmt.Sprint("error ", e)
		}
	}
	return all
}

// laidTree lays the block of a tree among others; its link.
func laidTree(blocks map[api.Link]string, v api.Value) api.Link {
	b, e := lay.Encode(v)
	if e != api.OK {
		panic(e)
	}
	return laid(blocks, b)
}

// same32: whether two rows of samples are one, bit by bit.
func same32(a, b []float32) bool { return bytes.Equal(leafForm(a), leafForm(b)) }

// appended: Append, held against the plain reading, with all blocks that stand behind it; the new root, if it is OK.
func appended(t *testing.T, s *store.Store, root api.Link, samples ...float32) (api.Link, api.Errno) {
	t.Helper()
	was := standing(s)
	want, blocks, bad := plainAppend(s, root, samples)
	now := maps.Clone(was)
	if bad == api.OK {
		maps.Copy(now, blocks)
		if len(now) > s.Room() {
			want, bad, now = api.Link{}, api.ErrStoreFull, was
		}
	} else {
		want = api.Link{}
	}
	l, e := Append(s, root, samples...)
	if l != want || e != bad {
		t.Fatalf("Append of %v: %d, another root: %v; want %d", samples, e, l != want, bad)
	}
	if !maps.Equal(standing(s), now) {
		t.Fatalf("Append of %v: %d; %d blocks stand; want %d, or these are others", samples, e, s.Len(), len(now))
	}
	return l, e
}

// ranges tells all ranges of few samples, and some that are none; of many, some ranges.
func ranges(d *sample.Dice, n int) []span {
	l := []span{{0, n}, {0, 0}, {n, n}, {0, n + 1}, {-1, n}, {-1, -1}, {n, n + 1}, {n + 1, n + 1}, {1, 0}, {n, n - 1}, {math.MinInt, math.MaxInt}, {math.MaxInt, math.MinInt}, {0, math.MaxInt}, {math.MinInt, 0}, {math.MaxInt, math.MaxInt}}
	if n <= 4 {
		for from := range n + 1 {
			for to := range n + 1 {
				l = append(l, span{from, to})
			}
		}
		return l
	}
	for range 6 {
		from := d.Below(n + 1)
		l = append(l, span{from, from + d.Below(n+1-from)}, span{from, n}, span{0, from})
	}
	return l
}

// reads holds all calls that read against the plain reading; nothing has changed behind them.
func reads(t *testing.T, d *sample.Dice, s *store.Store, root api.Link) {
	t.Helper()
	was := standing(s)
	width, top, bad := plainRoot(s, root)
	if n, e := Len(s, root); n != top.n || e != bad {
		t.Fatalf("Len: %d, %d; want %d, %d", n, e, top.n, bad)
	}
	if w, e := Width(s, root); w != width || e != bad {
		t.Fatalf("Width: %d, %d; want %d, %d", w, e, width, bad)
	}
	want, bad := plainCheck(s, root)
	if n, e := Check(s, root); n != want || e != bad {
		t.Fatalf("Check: %d, %d; want %d, %d", n, e, want, bad)
	}
	places := []int{-1, 0, top.n - 1, top.n, math.MinInt, math.MaxInt}
	for _, w := range ranges(d, top.n) {
		agree(t, s, root, w)
		places = append(places, w.from)
	}
	for _, i := range places {
		// Behind the greatest place stands the least one: both are none.
		want, bad := plainSlice(s, root, i, i+1)
		x, e := At(s, root, i)
		if bad != api.OK {
			want = []float32{0}
		}
		if e != bad || !same32([]float32{x}, want) {
			t.Fatalf("At(%d): %v, %d; want %v, %d", i, x, e, want, bad)
		}
	}
	if !maps.Equal(standing(s), was) {
		t.Fatalf("a call that reads has changed the store")
	}
}

// glances holds some calls that read against the plain reading.
func glances(t *testing.T, d *sample.Dice, s *store.Store, root api.Link) {
	t.Helper()
	want, bad := plainCheck(s, root)
	if n, e := Check(s, root); n != want || e != bad {
		t.Fatalf("Check: %d, %d; want %d, %d", n, e, want, bad)
	}
	n, e := Len(s, root)
	if e != api.OK {
		t.Fatalf("Len: %d", e)
	}
	from := d.Below(n + 1)
	agree(t, s, root, span{0, n})
	agree(t, s, root, span{from, from + d.Below(n+1-from)})
}

// agree holds Slice, Sum and Ends of a range against the plain reading.
func agree(t *testing.T, s *store.Store, root api.Link, w span) {
	t.Helper()
	want, bad := plainSlice(s, root, w.from, w.to)
	if l, e := Slice(s, root, w.from, w.to); e != bad || !same32(l, want) {
		t.Fatalf("Slice(%d, %d): %v, %d; want %v, %d", w.from, w.to, l, e, want, bad)
	}
	fold, badSum, badEnds := plainFold(s, root, w.from, w.to)
	if x, e := Sum(s, root, w.from, w.to); e != badSum || math.Float64bits(x) != math.Float64bits(fold.sum) {
		t.Fatalf("Sum(%d, %d): %v, %d; want %v, %d", w.from, w.to, x, e, fold.sum, badSum)
	}
	x, y, e := Ends(s, root, w.from, w.to)
	if e != badEnds || !same32([]float32{x, y}, []float32{fold.low, fold.top}) {
		t.Fatalf("Ends(%d, %d): %v, %v, %d; want %v, %v, %d", w.from, w.to, x, y, e, fold.low, fold.top, badEnds)
	}
}

// calls holds all calls against the plain reading; Appends in copies of the store.
func calls(t *testing.T, d *sample.Dice, s *store.Store, root api.Link) {
	t.Helper()
	reads(t, d, s, root)
	for _, n := range []int{0, 1, 2, d.Below(20)} {
		c := s.Copy()
		if l, e := appended(t, c, root, anySamples(d, n)...); e == api.OK {
			glances(t, d, c, l)
		}
	}
	appended(t, s.Copy(), root, 1, inf)
}
