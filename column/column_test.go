package column

import (
	"encoding/hex"
	"fmt"
	"maps"
	"math"
	"slices"
	"testing"

	"trellis/api"
	"trellis/sample"
	"trellis/store"
	"trellis/trie"
)

// block: the bytes of a block, in hex.
func block(t *testing.T, s *store.Store, l api.Link) string {
	t.Helper()
	b, e := s.Get(l)
	if e != api.OK {
		t.Fatalf("Get: %d", e)
	}
	return hex.EncodeToString(b)
}

// sums: Sum, held against a number bit by bit.
func sums(t *testing.T, s *store.Store, root api.Link, from, to int, want float64, bad api.Errno) {
	t.Helper()
	if x, e := Sum(s, root, from, to); math.Float64bits(x) != math.Float64bits(want) || e != bad {
		t.Errorf("Sum(%d, %d): %v, %d; want %v, %d", from, to, x, e, want, bad)
	}
}

// finds: At, held against a sample bit by bit.
func finds(t *testing.T, s *store.Store, root api.Link, i int, want float32, bad api.Errno) {
	t.Helper()
	if x, e := At(s, root, i); !same32([]float32{x}, []float32{want}) || e != bad {
		t.Errorf("At(%d): %v, %d; want %v, %d", i, x, e, want, bad)
	}
}

// bounds: Ends, held against two samples bit by bit.
func bounds(t *testing.T, s *store.Store, root api.Link, from, to int, low, top float32, bad api.Errno) {
	t.Helper()
	if x, y, e := Ends(s, root, from, to); !same32([]float32{x, y}, []float32{low, top}) || e != bad {
		t.Errorf("Ends(%d, %d): %v, %v, %d; want %v, %v, %d", from, to, x, y, e, low, top, bad)
	}
}

// TestExamples: the chapter's examples 1 to 3.
func TestExamples(t *testing.T) {
	s, l := begun(t, 1)
	if b := block(t, s, l); b != "8466636f6c756d6e0100f6" {
		t.Errorf("New: %s", b)
	}
	k := appends(t, s, l, 1.5, 2, -0.25)
	v, _ := plainTree(s, k)
	top := v.Items[3].Items[0].Link
	node, _ := plainTree(s, top)
	first, second := node.Items[0].Items[0].Link, node.Items[1].Items[0].Link
	for _, p := range []struct {
		link api.Link
		want string
	}{
		{first, "483fc0000040000000"},
		{second, "44be800000"},
		{top, "82" + "85d82a58250001711220" + hex.EncodeToString([]byte(first.Digest)) + "02" + "48400c000000000000" + "443fc00000" + "4440000000" +
			"85d82a58250001711220" + hex.EncodeToString([]byte(second.Digest)) + "01" + "48bfd0000000000000" + "44be800000" + "44be800000"},
		{k, "8466636f6c756d6e0102" + "85d82a58250001711220" + hex.EncodeToString([]byte(top.Digest)) + "03" + "48400a000000000000" + "44be800000" + "4440000000"},
	} {
		if b := block(t, s, p.link); b != p.want {
			t.Errorf("%s; want %s", b, p.want)
		}
	}
	if s.Len() != 5 {
		t.Errorf("%d blocks", s.Len())
	}
	sums(t, s, k, 0, 3, 3.25, api.OK)
	sums(t, s, k, 1, 3, 1.75, api.OK)
	sums(t, s, k, 1, 1, 0, api.OK)
	bounds(t, s, k, 0, 2, 1.5, 2, api.OK)
	sums(t, s, k, 2, 1, 0, api.ErrColumnRange)
	sums(t, s, k, 0, 4, 0, api.ErrColumnRange)
	bounds(t, s, k, 1, 1, 0, 0, api.ErrColumnRange)
	finds(t, s, k, 3, 0, api.ErrColumnRange)
	finds(t, s, k, -1, 0, api.ErrColumnRange)
	was := s.Len()
	m := appends(t, s, k, 4, 8)
	v, _ = plainTree(s, m)
	if v.Items[2].N != 3 || s.Len() != was+6 {
		t.Errorf("five samples: %d levels, %d blocks more", v.Items[2].N, s.Len()-was)
	}
	above, _ := plainTree(s, v.Items[3].Items[0].Link)
	left, _ := plainTree(s, above.Items[0].Items[0].Link)
	if len(above.Items) != 2 || left.Items[0].Items[0].Link != first {
		t.Errorf("the first node of level 2 has another first entry")
	}
	if l, e := Slice(s, m, 0, 5); !same32(l, []float32{1.5, 2, -0.25, 4, 8}) || e != api.OK {
		t.Errorf("Slice: %v, %d", l, e)
	}
}

// TestOrderOfSums: P15.5 and the chapter's example 4, sums that hang on where the leaves end.
func TestOrderOfSums(t *testing.T) {
	x := []float32{1, 1 << 53, 1, -(1 << 53)}
	for _, p := range []struct {
		width      int
		whole, end float64 // the sums from 0 on and from 1 on
	}{{1, 1, 1}, {2, 0, 0}, {3, 0, 0}, {8, 0, 0}} {
		s, l := begun(t, p.width)
		k := appends(t, s, l, x...)
		sums(t, s, k, 0, 4, p.whole, api.OK)
		sums(t, s, k, 1, 4, p.end, api.OK)
		sums(t, s, k, 0, 3, 1<<53, api.OK)
		sums(t, s, k, 2, 4, 1-(1<<53), api.OK)
	}
	// In binary64, not in binary32; and each part's sum by itself, ahead of the node's.
	s, l := begun(t, 1)
	sums(t, s, appends(t, s, l, 1<<24, 1), 0, 2, 1<<24+1, api.OK)
	k := appends(t, s, l, 1<<53, 1, 1, -(1 << 53), 1)
	sums(t, s, k, 0, 5, 2, api.OK)
	sums(t, s, k, 0, 4, 1, api.OK)
	sums(t, s, k, 1, 5, 3-(1<<53), api.OK)
	// The greatest samples: their sum is far from an infinity.
	k = appends(t, s, l, math.MaxFloat32, math.MaxFloat32, math.MaxFloat32)
	sums(t, s, k, 0, 3, 3*math.MaxFloat32, api.OK)
}

// TestNoughts: P15.5 and P15.6, -0 stands ahead of 0; a sum is never -0.
func TestNoughts(t *testing.T) {
	for width := 1; width <= 3; width++ {
		s, l := begun(t, width)
		k := appends(t, s, l, minus)
		sums(t, s, k, 0, 1, 0, api.OK)
		bounds(t, s, k, 0, 1, minus, minus, api.OK)
		finds(t, s, k, 0, minus, api.OK)
		k = appends(t, s, k, minus, 0, minus, 0, 0, minus, minus)
		for i, want := range []float32{minus, minus, 0, minus, 0, 0, minus, minus} {
			finds(t, s, k, i, want, api.OK)
			bounds(t, s, k, i, i+1, want, want, api.OK)
			sums(t, s, k, i, i+1, 0, api.OK)
		}
		sums(t, s, k, 0, 2, 0, api.OK)
		sums(t, s, k, 0, 8, 0, api.OK)
		sums(t, s, k, 3, 3, 0, api.OK)
		bounds(t, s, k, 0, 8, minus, 0, api.OK)
		bounds(t, s, k, 1, 7, minus, 0, api.OK)
		bounds(t, s, k, 0, 2, minus, minus, api.OK)
		bounds(t, s, k, 4, 6, 0, 0, api.OK)
		if n, e := Check(s, k); n != 8 || e != api.OK {
			t.Errorf("Check: %d, %d", n, e)
		}
	}
}

// TestNew: P15.1, the widths that may be; the root alone is put, and an empty column answers.
func TestNew(t *testing.T) {
	s := made(t, 100)
	for _, width := range []int{0, -1, 9, 10, 64, math.MinInt, math.MaxInt, 256, 1 << 32, 1<<32 + 1} {
		if l, e := New(s, width); l != (api.Link{}) || e != api.ErrColumnWidth || s.Len() != 0 {
			t.Errorf("New(%d): %#v, %d", width, l, e)
		}
	}
	d := sample.Dice(1)
	for width := 1; width <= 8; width++ {
		l, e := New(s, width)
		blocks := map[api.Link]string{}
		if l != columnOf(blocks, width, nil) || e != api.OK || s.Len() != width {
			t.Errorf("New(%d): %#v, %d; %d blocks", width, l, e, s.Len())
		}
		if again, e := New(s, width); again != l || e != api.OK || s.Len() != width {
			t.Errorf("New(%d) again: %d", width, e)
		}
		if w, e := Width(s, l); w != width || e != api.OK {
			t.Errorf("Width: %d, %d", w, e)
		}
		if n, e := Len(s, l); n != 0 || e != api.OK {
			t.Errorf("Len: %d, %d", n, e)
		}
		if n, e := Check(s, l); n != 0 || e != api.OK {
			t.Errorf("Check: %d, %d", n, e)
		}
		if x, e := Slice(s, l, 0, 0); len(x) != 0 || e != api.OK {
			t.Errorf("Slice: %v, %d", x, e)
		}
		sums(t, s, l, 0, 0, 0, api.OK)
		bounds(t, s, l, 0, 0, 0, 0, api.ErrColumnRange)
		finds(t, s, l, 0, 0, api.ErrColumnRange)
		calls(t, &d, s, l)
	}
	// Of a width that may not be nothing is asked of the store; of one that may be, its error is handed on.
	full := made(t, 1)
	first, _ := New(full, 1)
	if l, e := New(full, 2); l != (api.Link{}) || e != api.ErrStoreFull || full.Len() != 1 {
		t.Errorf("without room: %#v, %d", l, e)
	}
	if _, e := New(full, 9); e != api.ErrColumnWidth {
		t.Errorf("without room: %d", e)
	}
	if l, e := New(full, 1); l != first || e != api.OK {
		t.Errorf("what stands: %d", e)
	}
	if e := full.Force(first, []byte("broken")); e != api.OK {
		t.Fatal(e)
	}
	if l, e := New(full, 1); l != first || e != api.OK || block(t, full, l) != "8466636f6c756d6e0100f6" {
		t.Errorf("what is broken is mended: %d", e)
	}
}

// TestPieces: P15.2, P15.9: one root, in however many pieces; blocks, and which of them an Append adds; all that is told of each.
func TestPieces(t *testing.T) {
	for seed := range 60 {
		d := sample.Dice(seed)
		width := 1 + d.Below(4)
		s, root := begun(t, width)
		empty := root
		var all []float32
		for range 1 + d.Below(8) {
			more := anySamples(&d, d.Below(3*power(width, 1)))
			all = append(all, more...)
			root, _ = appended(t, s, root, more...)
			if want := columnOf(map[api.Link]string{}, width, all); root != want {
				t.Fatalf("seed %d, width %d: another root of %d samples", seed, width, len(all))
			}
		}
		if l := appends(t, s, empty, all...); l != root {
			t.Fatalf("seed %d: another root at once", seed)
		}
		reads(t, &d, s, root)
		if l, e := Slice(s, root, 0, len(all)); !same32(l, all) || e != api.OK {
			t.Fatalf("seed %d: Slice: %v, %d; want %v", seed, l, e, all)
		}
		if n, e := Check(s, root); n != len(all) || e != api.OK {
			t.Fatalf("seed %d: Check: %d, %d", seed, n, e)
		}
	}
}

// TestOneByOne: P15.2 and P15.9, columns of no sample, of one, of just F^k and of one more; each Append against the plain one, and earlier roots go on.
func TestOneByOne(t *testing.T) {
	for width, most := range map[int]int{1: 70, 2: 70, 3: 70, 8: 3} {
		d := sample.Dice(width)
		s, root := begun(t, width)
		roots := []api.Link{root}
		all := anySamples(&d, most)
		for _, x := range all {
			root, _ = appended(t, s, root, x)
			roots = append(roots, root)
		}
		blocks := map[api.Link]string{}
		for n, l := range roots {
			if l != columnOf(blocks, width, all[:n]) {
				t.Fatalf("width %d: another root of %d samples", width, n)
			}
			reads(t, &d, s, l)
			if x, e := Slice(s, l, 0, n); !same32(x, all[:n]) || e != api.OK {
				t.Fatalf("width %d: Slice of %d: %v, %d", width, n, x, e)
			}
		}
		// Nothing else stands than these columns' blocks.
		if !maps.Equal(standing(s), blocks) {
			t.Errorf("width %d: %d blocks; want %d", width, s.Len(), len(blocks))
		}
	}
}

// TestPowers: P15.2, samples about F^k, from one such number to another.
func TestPowers(t *testing.T) {
	for width, top := range map[int]int{1: 6, 2: 3, 3: 2, 4: 2, 8: 1} {
		d := sample.Dice(width)
		counts := []int{0}
		for k := range top + 1 {
			for _, n := range []int{-1, 0, 1, 2} {
				counts = append(counts, power(width, k)+n)
			}
		}
		slices.Sort(counts)
		all := anySamples(&d, slices.Max(counts))
		for _, from := range slices.Compact(counts) {
			s, root := filled(t, width, all[:from]...)
			reads(t, &d, s, root)
			for _, to := range counts {
				if to < from {
					continue
				}
				l, _ := appended(t, s.Copy(), root, all[from:to]...)
				if want := columnOf(map[api.Link]string{}, width, all[:to]); l != want {
					t.Fatalf("width %d: another root from %d samples to %d", width, from, to)
				}
			}
		}
	}
}

// TestLevels: P15.2, how many levels the root tells.
func TestLevels(t *testing.T) {
	for _, p := range []struct{ width, n, levels int }{{1, 1, 1}, {1, 2, 1}, {1, 3, 2}, {1, 4, 2}, {1, 5, 3}, {1, 64, 6}, {1, 65, 7}, {2, 4, 1}, {2, 5, 2}, {2, 16, 2}, {2, 17, 3}, {8, 256, 1}, {8, 257, 2}, {8, 1, 1}} {
		s, l := begun(t, p.width)
		v, _ := plainTree(s, appends(t, s, l, make([]float32, p.n)...))
		if v.Items[2].N != uint64(p.levels) || v.Items[3].Items[1].N != uint64(p.n) {
			t.Errorf("%d samples of width %d: %d levels", p.n, p.width, v.Items[2].N)
		}
	}
}

// TestRanges: P15.3 to P15.6, all ranges of columns of all small sizes, and what is none.
func TestRanges(t *testing.T) {
	for width := 1; width <= 3; width++ {
		d := sample.Dice(width)
		for n := range 20 {
			all := anySamples(&d, n)
			s, root := filled(t, width, all...)
			for from := -2; from <= n+2; from++ {
				for to := -2; to <= n+2; to++ {
					agree(t, s, root, span{from, to})
					l, e := Slice(s, root, from, to)
					if is := 0 <= from && from <= to && to <= n; is != (e == api.OK) || is && !same32(l, all[from:to]) {
						t.Fatalf("Slice(%d, %d) of %v: %v, %d", from, to, all, l, e)
					}
				}
			}
		}
	}
}

// TestRefused: P15.2 to P15.6 and the chapter's example 5, which error counts.
func TestRefused(t *testing.T) {
	s, l := begun(t, 1)
	for _, x := range []float32{inf, -inf, none, math.Float32frombits(0x7f800001), math.Float32frombits(0xffffffff)} {
		for _, samples := range [][]float32{{x}, {1, x}, {x, 1}, {x, x}, append(make([]float32, 5), x)} {
			for _, root := range []api.Link{l, {}, treeLink([]byte("lost"))} {
				was := standing(s)
				if k, e := Append(s, root, samples...); k != (api.Link{}) || e != api.ErrColumnSample || !maps.Equal(standing(s), was) {
					t.Errorf("Append of %v: %#v, %d", samples, k, e)
				}
			}
		}
	}
	root, _ := trie.New(s, api.Trie{Width: 2, Bucket: 1, Bytes: 1})
	raw, _ := s.Put(api.CodecRaw, []byte("\x84\x66column\x01\x00\xf6"))
	old := api.Link{Codec: api.CodecOld, Hash: api.HashSha, Digest: l.Digest}
	other := api.Link{Version: 1, Codec: api.CodecTree + 1, Hash: api.HashSha, Digest: l.Digest}
	for _, x := range []api.Link{old, other} {
		if e := s.Force(x, []byte("\x84\x66column\x01\x00\xf6")); e != api.OK {
			t.Fatal(e)
		}
	}
	bad, _ := s.Put(api.CodecTree, []byte("bad"))
	if e := s.Force(bad, []byte("\x84\x66column\x01\x00\xf6")); e != api.OK {
		t.Fatal(e)
	}
	text, _ := s.Put(api.CodecTree, []byte("\x84\x66column\x01\x00\xf6\x00"))
	for _, p := range []struct {
		root api.Link
		e    api.Errno
	}{
		{root, api.ErrColumnNode},
		{raw, api.ErrColumnNode},
		{old, api.ErrColumnNode},
		{other, api.ErrColumnNode},
		{text, api.ErrColumnNode},
		{api.Link{Version: 1, Codec: api.CodecTree, Digest: "\x84\x66column\x01\x00\xf6"}, api.ErrColumnNode},
		{bad, api.ErrStoreBad},
		{treeLink([]byte("lost")), api.ErrStoreNone},
		{api.Link{}, api.ErrStoreLink},
		{api.Link{Version: 2, Codec: api.CodecTree, Hash: api.HashSha, Digest: l.Digest}, api.ErrStoreLink},
		{api.Link{Version: 1, Codec: api.CodecTree, Hash: api.HashSha, Digest: "short"}, api.ErrStoreLink},
	} {
		allFail(t, s, p.root, p.e)
	}
}

// allFail: every call is refused by one error of the root, ahead of the errors of places and ranges; nothing has changed.
func allFail(t *testing.T, s *store.Store, root api.Link, want api.Errno) {
	t.Helper()
	was := standing(s)
	told := ""
	note := func(name string, zero bool, e api.Errno) {
		if !zero || e != want {
			told += fmt.Sprintf(" %s: %d, zero %v;", name, e, zero)
		}
	}
	for _, w := range []span{{0, 0}, {0, 1}, {-1, 0}, {2, 1}, {0, math.MaxInt}} {
		n, e := Len(s, root)
		note("Len", n == 0, e)
		n, e = Width(s, root)
		note("Width", n == 0, e)
		n, e = Check(s, root)
		note("Check", n == 0, e)
		x, e := At(s, root, w.from)
		note("At", x == 0, e)
		l, e := Slice(s, root, w.from, w.to)
		note("Slice", len(l) == 0, e)
		sum, e := Sum(s, root, w.from, w.to)
		note("Sum", sum == 0, e)
		x, y, e := Ends(s, root, w.from, w.to)
		note("Ends", x == 0 && y == 0, e)
	}
	for _, samples := range [][]float32{nil, {1}, make([]float32, api.MaxSamples), make([]float32, api.MaxSamples+1)} {
		k, e := Append(s, root, samples...)
		note("Append", k == (api.Link{}), e)
	}
	if told != "" || !maps.Equal(standing(s), was) {
		t.Errorf("%#v: want %d:%s", root, want, told)
	}
}

// TestNoSamples: P15.2, Append of none: the root itself, and nothing more is read.
func TestNoSamples(t *testing.T) {
	s, root := filled(t, 1, 1, 2, 3, 4, 5)
	for _, l := range s.Links() {
		if l != root {
			s.Delete(l)
		}
	}
	for _, none := range [][]float32{nil, {}, make([]float32, 0, 3)} {
		if l, e := Append(s, root, none...); l != root || e != api.OK || s.Len() != 1 {
			t.Errorf("Append of none: %d; %d blocks", e, s.Len())
		}
	}
	if _, e := Append(s, root, 1); e != api.ErrStoreNone {
		t.Errorf("Append of one: %d", e)
	}
}

// TestTwoColumns: P15.11, columns in one store have nothing in common but equal blocks.
func TestTwoColumns(t *testing.T) {
	d := sample.Dice(7)
	s := made(t, 5000)
	var roots [4]api.Link
	var rows [4][]float32
	widths := [4]int{1, 2, 1, 5}
	for i, w := range widths {
		roots[i], _ = New(s, w)
	}
	for range 60 {
		i := d.Below(4)
		more := anySamples(&d, d.Below(6))
		rows[i] = append(rows[i], more...)
		roots[i], _ = appended(t, s, roots[i], more...)
	}
	blocks := map[api.Link]string{}
	for i, w := range widths {
		if roots[i] != columnOf(blocks, w, rows[i]) {
			t.Errorf("another root")
		}
		reads(t, &d, s, roots[i])
	}
}

// TestToldIsNew: P15.11 and R2, what is told is the caller's own, its spare room too.
func TestToldIsNew(t *testing.T) {
	all := []float32{1, 2, 3, 4, 5, 6, 7, 8, 9}
	for width := 1; width <= 4; width++ {
		s, root := filled(t, width, all...)
		was := standing(s)
		for from := range all {
			for to := from; to <= len(all); to++ {
				a, _ := Slice(s, root, from, to)
				b, _ := Slice(s, root, from, to)
				for i := range a[:cap(a)] {
					a[:cap(a)][i] = inf
				}
				if slices.Contains(b[:cap(b)], inf) || !same32(b, all[from:to]) {
					t.Errorf("two answers of Slice share memory")
				}
			}
		}
		if !maps.Equal(standing(s), was) {
			t.Errorf("what was told was written over, and another thing stands")
		}
		reads(t, new(sample.Dice), s, root)
	}
}

// TestHandedIn: P15.11 and R2, samples that are handed in are neither changed nor kept, their spare room too.
func TestHandedIn(t *testing.T) {
	for seed := range 40 {
		d := sample.Dice(seed)
		width := 1 + d.Below(3)
		s, root := begun(t, width)
		var all []float32
		for range 6 {
			n := d.Below(12)
			row := anySamples(&d, 20)
			kept := slices.Clone(row)
			l := appends(t, s, root, row[:n]...)
			if !same32(row, kept) {
				t.Fatalf("seed %d: samples were changed", seed)
			}
			was := standing(s)
			for i := range row {
				row[i] = 77
			}
			if !maps.Equal(standing(s), was) {
				t.Fatalf("seed %d: samples were written over, and another thing stands", seed)
			}
			root, all = l, append(all, kept[:n]...)
		}
		if x, _ := Slice(s, root, 0, len(all)); !same32(x, all) {
			t.Fatalf("seed %d: Slice: %v; want %v", seed, x, all)
		}
	}
}
