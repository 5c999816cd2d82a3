package column

import (
	"maps"
	"math"
	"slices"
	"testing"

	"trellis/api"
	"trellis/sample"
	"trellis/store"
)

// spots: all parts of a column.
func spots(width, n int) []spot {
	var l []spot
	for level := 1; level <= height(width, n); level++ {
		for p := (spot{level, 0}); p.at*power(width, level) < n; p.at++ {
			l = append(l, p)
		}
	}
	return l
}

// forgedStore: a store with what a forger lays of a column, and its root.
func forgedStore(t *testing.T, f *forger, samples ...float32) (*store.Store, api.Link) {
	t.Helper()
	root := f.forge(samples)
	s := made(t, 5000)
	laidAll(s, f.blocks)
	return s, root
}

// linkAt: the link of a part of a column that is right as far as it is read.
func linkAt(t *testing.T, s *store.Store, root api.Link, p spot) api.Link {
	t.Helper()
	r, at, x, e := plainRow(s, root)
	for e == api.OK && at.level > p.level {
		var told map[spot]tale
		told, e = r.node(at, x)
		at = spot{at.level - 1, p.at / power(r.width, at.level-1-p.level)}
		x = told[at]
	}
	if e != api.OK || x.link == (api.Link{}) {
		t.Fatalf("no part %v: %d", p, e)
	}
	return x.link
}

// TestForger: a forger that bends nothing makes the columns that the chapter says.
func TestForger(t *testing.T) {
	for width := 1; width <= 3; width++ {
		for n := range 20 {
			d := sample.Dice(n)
			all := anySamples(&d, n)
			f, blocks := straight(width), map[api.Link]string{}
			if f.forge(all) != columnOf(blocks, width, all) || !maps.Equal(f.blocks, blocks) {
				t.Fatalf("width %d, %d samples: other blocks", width, n)
			}
		}
	}
}

// TestBentEntries: P15.2 to P15.7 and P15.10, one entry is bent in each way, wherever it stands.
func TestBentEntries(t *testing.T) {
	all := []float32{1.5, 2, -0.25, 4, 8, minus, 0.1}
	for _, c := range []struct{ width, n int }{{1, 1}, {1, 5}, {2, 7}} {
		for _, p := range spots(c.width, c.n) {
			for i, b := range entryBends() {
				f := straight(c.width)
				f.entry = func(q spot, v *api.Value) {
					if p == q {
						b(v)
					}
				}
				d := sample.Dice(i)
				s, root := forgedStore(t, f, all[:c.n]...)
				calls(t, &d, s, root)
			}
		}
	}
}

// TestBentParts: likewise of one part, whose entry stays as it was or is that of the bent one.
func TestBentParts(t *testing.T) {
	all := []float32{1.5, 2, -0.25, 4, 8, minus, 0.1}
	for _, c := range []struct{ width, n int }{{1, 2}, {1, 6}, {2, 7}} {
		for _, p := range spots(c.width, c.n) {
			bends := leafBends()
			if p.level > 1 {
				bends = nodeBends()
			}
			for i, b := range bends {
				f := straight(c.width)
				f.part = func(q spot, v *api.Value) {
					if p == q {
						b(v)
					}
				}
				d := sample.Dice(i)
				s, root := forgedStore(t, f, all[:c.n]...)
				calls(t, &d, s, root)
			}
		}
	}
}

// TestBentRoots: likewise of the root.
func TestBentRoots(t *testing.T) {
	all := []float32{1.5, 2, -0.25, 4, 8, minus, 0.1}
	for width := 1; width <= 3; width++ {
		for n := range 8 {
			for i, b := range rootBends() {
				f := straight(width)
				f.root = b
				d := sample.Dice(i)
				s, root := forgedStore(t, f, all[:n]...)
				calls(t, &d, s, root)
			}
		}
	}
}

// TestRightRoots: P15.1 and P15.10, which roots are right, told one by one. What is below is not read.
func TestRightRoots(t *testing.T) {
	lost := api.Value{Kind: api.KindLink, Link: treeLink([]byte("lost"))}
	entry := func(n uint64, sum float64, low, top float32) api.Value {
		return sample.List(lost, sample.Whole(n), sumBytes(sum), sampleBytes(low), sampleBytes(top))
	}
	three := 3 * math.Pow(2, 128)
	good := entry(3, 1, 0, 1)
	for i, p := range []struct {
		width, levels uint64
		last          api.Value
		right         bool
	}{
		{1, 0, sample.Null(), true}, {8, 0, sample.Null(), true}, {0, 0, sample.Null(), false}, {9, 0, sample.Null(), false},
		{1, 1, sample.Null(), false}, {1, 0, good, false}, {1, 0, sample.List(), false},
		{1, 2, good, true}, {1, 1, good, false}, {1, 3, good, false}, {2, 1, good, true}, {2, 2, good, false}, {8, 1, good, true},
		{0, 1, good, false}, {9, 1, good, false}, {0, 0, good, false},
		{1, 1, entry(1, 0, 0, 0), true}, {1, 1, entry(2, 0, 0, 0), true}, {1, 2, entry(4, 0, 0, 0), true}, {1, 3, entry(5, 0, 0, 0), true}, {1, 2, entry(5, 0, 0, 0), false}, {1, 1, entry(0, 0, 0, 0), false}, {1, 0, entry(0, 0, 0, 0), false},
		{8, 1, entry(256, 0, 0, 0), true}, {8, 2, entry(257, 0, 0, 0), true}, {8, 2, entry(65536, 0, 0, 0), true}, {8, 3, entry(65537, 0, 0, 0), true},
		{1, 20, entry(1<<20, 0, 0, 0), true}, {1, 20, entry(1<<20-1, 0, 0, 0), true}, {1, 20, entry(1<<20+1, 0, 0, 0), false}, {1, 21, entry(1<<20+1, 0, 0, 0), false}, {1, 21, entry(1<<20, 0, 0, 0), false},
		{8, 3, entry(1<<20, 0, 0, 0), true}, {8, 3, entry(1<<20+1, 0, 0, 0), false}, {7, 3, entry(1<<20, 0, 0, 0), true}, {3, 7, entry(1<<20, 0, 0, 0), true},
		{1, 2, entry(3, three, 0, 0), true}, {1, 2, entry(3, -three, 0, 0), true}, {1, 2, entry(3, math.Nextafter(three, 2*three), 0, 0), false}, {1, 2, entry(3, -math.Nextafter(three, 2*three), 0, 0), false},
		{1, 2, entry(3, math.Inf(1), 0, 0), false}, {1, 2, entry(3, math.Inf(-1), 0, 0), false}, {1, 2, entry(3, math.NaN(), 0, 0), false}, {1, 2, entry(3, math.Copysign(0, -1), 0, 0), true},
		{1, 2, entry(3, 0, minus, 0), true}, {1, 2, entry(3, 0, 0, minus), false}, {1, 2, entry(3, 0, 1, 1), true}, {1, 2, entry(3, 0, 2, 1), false}, {1, 2, entry(3, 0, -math.MaxFloat32, math.MaxFloat32), true},
		{1, 2, entry(3, 0, 0, inf), false}, {1, 2, entry(3, 0, -inf, 0), false}, {1, 2, entry(3, 0, none, 0), false}, {1, 2, entry(3, 0, 0, none), false}, {1, 2, entry(3, 0, none, none), false},
	} {
		s := made(t, 5)
		blocks := map[api.Link]string{}
		root := laidTree(blocks, sample.List(sample.Text("column"), sample.Whole(p.width), sample.Whole(p.levels), p.last))
		laidAll(s, blocks)
		if !p.right {
			allFail(t, s, root, api.ErrColumnNode)
			continue
		}
		n := 0
		if p.levels > 0 {
			n = int(p.last.Items[1].N)
		}
		if got, e := Len(s, root); got != n || e != api.OK {
			t.Errorf("%d: Len: %d, %d", i, got, e)
		}
		if w, e := Width(s, root); w != int(p.width) || e != api.OK {
			t.Errorf("%d: Width: %d, %d", i, w, e)
		}
		if n > 0 {
			if _, e := Check(s, root); e != api.ErrStoreNone {
				t.Errorf("%d: Check: %d", i, e)
			}
			if x, e := Sum(s, root, 0, n); sumBytes(x).Bytes[0] != p.last.Items[2].Bytes[0] || e != api.OK {
				t.Errorf("%d: Sum: %v, %d", i, x, e)
			}
		}
	}
}

// TestWrongSums: P15.5 to P15.7, sums and ends that are right in form but not those of the samples: Check alone tells; the others answer by entries of what stands in the range whole, and by samples where it does not.
func TestWrongSums(t *testing.T) {
	f := straight(1)
	f.entry = func(p spot, v *api.Value) {
		if p == (spot{1, 0}) {
			v.Items[2], v.Items[3], v.Items[4] = sumBytes(100), sampleBytes(50), sampleBytes(60)
		}
	}
	s, root := forgedStore(t, f, 1, 2, 3, 4, 5)
	sums(t, s, root, 0, 2, 100, api.OK)
	sums(t, s, root, 0, 1, 1, api.OK)
	sums(t, s, root, 1, 3, 5, api.OK)
	sums(t, s, root, 0, 3, 103, api.OK)
	sums(t, s, root, 0, 5, 112, api.OK)
	bounds(t, s, root, 0, 2, 50, 60, api.OK)
	bounds(t, s, root, 0, 1, 1, 1, api.OK)
	bounds(t, s, root, 1, 3, 2, 3, api.OK)
	bounds(t, s, root, 0, 3, 3, 60, api.OK)
	if l, e := Slice(s, root, 0, 5); !same32(l, []float32{1, 2, 3, 4, 5}) || e != api.OK {
		t.Errorf("Slice: %v, %d", l, e)
	}
	if n, e := Check(s, root); n != 0 || e != api.ErrColumnForm {
		t.Errorf("Check: %d, %d", n, e)
	}
	// The entry of a full part is taken as it stands.
	l, _ := appended(t, s, root, 6)
	sums(t, s, l, 0, 6, 118, api.OK)
	if _, e := Check(s, l); e != api.ErrColumnForm {
		t.Errorf("Check behind Append: %d", e)
	}
	// That of a part that is filled up is made of its samples, or of its parts' entries.
	for _, p := range []spot{{1, 2}, {2, 1}, {3, 0}} {
		f := straight(1)
		f.entry = func(q spot, v *api.Value) {
			if q == p {
				v.Items[2], v.Items[3], v.Items[4] = sumBytes(100), sampleBytes(50), sampleBytes(60)
			}
		}
		s, root := forgedStore(t, f, 1, 2, 3, 4, 5)
		if _, e := Check(s, root); e != api.ErrColumnForm {
			t.Errorf("Check: %d", e)
		}
		if l, _ := appended(t, s, root, 6); l != columnOf(map[api.Link]string{}, 1, []float32{1, 2, 3, 4, 5, 6}) {
			t.Errorf("part %v: another root", p)
		}
	}
	// A nought of the other sign is another sum, and the top's is told as it stands.
	f = straight(1)
	f.entry = func(p spot, v *api.Value) { v.Items[2] = sumBytes(math.Copysign(0, -1)) }
	s, root = forgedStore(t, f, minus)
	sums(t, s, root, 0, 1, math.Copysign(0, -1), api.OK)
	if _, e := Check(s, root); e != api.ErrColumnForm {
		t.Errorf("Check of -0: %d", e)
	}
	for _, p := range []struct {
		low, top float32
		e        api.Errno
	}{{minus, 0, api.OK}, {0, 0, api.ErrColumnForm}, {minus, minus, api.ErrColumnForm}} {
		f := straight(1)
		f.entry = func(_ spot, v *api.Value) { v.Items[3], v.Items[4] = sampleBytes(p.low), sampleBytes(p.top) }
		s, root := forgedStore(t, f, 0, minus)
		if _, e := Check(s, root); e != p.e {
			t.Errorf("Check of the ends %v and %v: %d", p.low, p.top, e)
		}
	}
}

// TestSumsAtTheBound: P15.10, forged sums at the greatest amount: what Append makes of right blocks is right, and no sum is an infinity.
func TestSumsAtTheBound(t *testing.T) {
	for _, sign := range []float64{1, -1} {
		f := straight(1)
		f.entry = func(p spot, v *api.Value) {
			v.Items[2] = sumBytes(sign * float64(v.Items[1].N) * math.Pow(2, 128))
		}
		s, root := forgedStore(t, f, 1, 2, 3, 4, 5, 6, 7)
		sums(t, s, root, 0, 4, sign*math.Pow(2, 130), api.OK)
		for range 12 {
			root, _ = appended(t, s, root, math.MaxFloat32*float32(sign))
			if _, e := Len(s, root); e != api.OK {
				t.Fatalf("Len: %d", e)
			}
		}
		if x, e := Slice(s, root, 0, 19); len(x) != 19 || e != api.OK {
			t.Errorf("Slice: %v, %d", x, e)
		}
	}
}

// TestLost: P15.2 to P15.7, each block is lost, or other bytes stand there: whether a call is refused hangs on what it reads.
func TestLost(t *testing.T) {
	for _, c := range []struct{ width, n int }{{1, 3}, {1, 4}, {1, 7}, {1, 8}, {1, 11}, {2, 4}, {2, 9}, {2, 17}} {
		d := sample.Dice(c.n)
		whole, root := filled(t, c.width, anySamples(&d, c.n)...)
		for _, l := range whole.Links() {
			s := whole.Copy()
			s.Delete(l)
			calls(t, &d, s, root)
			if e := s.Force(l, []byte{0x44, 0, 0, 0, 0}); e != api.OK {
				t.Fatal(e)
			}
			calls(t, &d, s, root)
		}
	}
}

// TestLostLeaf: the chapter's example 6.
func TestLostLeaf(t *testing.T) {
	s, l := begun(t, 1)
	root := appends(t, s, l, 1.5, 2, -0.25)
	s.Delete(linkAt(t, s, root, spot{1, 0}))
	finds(t, s, root, 2, -0.25, api.OK)
	sums(t, s, root, 0, 3, 3.25, api.OK)
	appended(t, s.Copy(), root, 1)
	finds(t, s, root, 0, 0, api.ErrStoreNone)
	sums(t, s, root, 1, 3, 0, api.ErrStoreNone)
	if l, e := Slice(s, root, 0, 1); len(l) != 0 || e != api.ErrStoreNone {
		t.Errorf("Slice: %v, %d", l, e)
	}
	if n, e := Check(s, root); n != 0 || e != api.ErrStoreNone {
		t.Errorf("Check: %d, %d", n, e)
	}
}

// TestFirstError: P15.2 to P15.7, two blocks are broken, each in its way: the first one that is read counts.
func TestFirstError(t *testing.T) {
	for _, c := range []struct{ width, n int }{{1, 5}, {1, 7}, {2, 11}} {
		all := make([]float32, c.n)
		for i := range all {
			all[i] = float32(i) + 0.5 // no two leaves are one block
		}
		for _, p := range spots(c.width, c.n) {
			for how := range 2 {
				f := straight(c.width)
				f.part = func(q spot, v *api.Value) {
					if q == p && how == 0 {
						*v = sample.Text("no part")
					}
				}
				f.entry = func(q spot, v *api.Value) {
					if q == p && how == 1 {
						v.Items[2] = sumBytes(1e9) // ErrColumnForm of Check, nothing of the others
					}
				}
				whole, root := forgedStore(t, f, all...)
				for i, l := range whole.Links() {
					if l == root {
						continue
					}
					d := sample.Dice(i)
					s := whole.Copy()
					if i%2 == 0 {
						s.Delete(l)
					} else if e := s.Force(l, []byte("broken")); e != api.OK {
						t.Fatal(e)
					}
					reads(t, &d, s, root)
					for _, n := range []int{1, 2, 5} {
						appended(t, s.Copy(), root, anySamples(&d, n)...)
					}
				}
			}
		}
	}
}

// TestManyForged: P15.10, whatever is bent, however much of it, over stores that are broken, too.
func TestManyForged(t *testing.T) {
	right := 0
	for seed := range 1500 {
		d := sample.Dice(seed)
		f := anyForger(&d, 1+d.Below(3), 4+d.Below(30))
		s, root := forgedStore(t, f, anySamples(&d, d.Below(30))...)
		for range d.Below(3) {
			links := s.Links()
			if len(links) == 0 {
				break
			}
			if l := links[d.Below(len(links))]; d.Below(2) == 0 {
				s.Delete(l)
			} else if e := s.Force(l, []byte{0x80}); e != api.OK {
				t.Fatal(e)
			}
		}
		calls(t, &d, s, root)
		if _, e := Len(s, root); e == api.OK {
			right++
		}
	}
	if right < 500 {
		t.Errorf("%d roots are right", right)
	}
}

// TestCheckTakesColumnsAlone: P15.10, Check is OK just if the root is that of its samples' column, all of which stands; then Append makes such a root again.
func TestCheckTakesColumnsAlone(t *testing.T) {
	taken, refused := 0, 0
	for seed := range 1500 {
		d := sample.Dice(seed)
		width := 1 + d.Below(3)
		f := anyForger(&d, width, 20+d.Below(60))
		s, root := forgedStore(t, f, anySamples(&d, d.Below(20))...)
		n, e := Check(s, root)
		w, _ := Width(s, root)
		l, bad := Slice(s, root, 0, n)
		blocks := map[api.Link]string{}
		is := e == api.OK && bad == api.OK && len(l) == n && columnOf(blocks, w, l) == root
		if e != api.OK {
			refused++
			// What is refused is not the column of the samples that it tells.
			if n, e := Len(s, root); e == api.OK {
				w, _ := Width(s, root)
				if l, e := Slice(s, root, 0, n); e == api.OK && columnOf(blocks, w, l) == root {
					t.Fatalf("seed %d: a column is refused", seed)
				}
			}
			continue
		}
		taken++
		if !is {
			t.Fatalf("seed %d: Check takes what is no column", seed)
		}
		more := anySamples(&d, 1+d.Below(20))
		if k := appends(t, s, root, more...); k != columnOf(blocks, w, append(l, more...)) {
			t.Fatalf("seed %d: another root behind it", seed)
		}
	}
	if taken < 200 || refused < 200 {
		t.Errorf("%d are taken, %d refused", taken, refused)
	}
}

// TestNotAdded: P15.2, parts of which all samples were there are neither read nor added; those that are filled up are.
func TestNotAdded(t *testing.T) {
	all := []float32{1, 2, 3, 4, 5, 6, 7, 8, 9, 10, 11}
	for n := range all {
		for width := 1; width <= 2; width++ {
			s, root := filled(t, width, all[:n]...)
			if n == 0 {
				continue
			}
			for _, p := range spots(width, n) {
				if p.isFull(width, n) && p.level == 1 {
					s.Delete(linkAt(t, s, root, p))
				}
			}
			d := sample.Dice(n)
			for more := 1; more <= 8; more++ {
				c := s.Copy()
				before := c.Len()
				if _, e := appended(t, c, root, all[:more]...); e != api.OK {
					t.Fatalf("width %d, %d and %d samples: %d", width, n, more, e)
				}
				// Appending again what stands already lays nothing, and needs no room.
				after := c.Len()
				if appends(t, c, root, all[:more]...); c.Len() != after || after == before {
					t.Errorf("%d blocks, %d, %d", before, after, c.Len())
				}
			}
			appended(t, s, root, anySamples(&d, 3)...)
		}
	}
}

// TestRoom: P15.8, a store without room for all new parts: nothing has changed; with just enough it is done.
func TestRoom(t *testing.T) {
	for _, c := range []struct{ width, n, more int }{{1, 0, 1}, {1, 0, 9}, {1, 3, 1}, {1, 4, 1}, {1, 5, 6}, {2, 4, 13}, {2, 5, 1}} {
		all := make([]float32, c.n+c.more)
		for i := range all {
			all[i] = float32(i) - 0.5
		}
		blocks := map[api.Link]string{}
		root := columnOf(blocks, c.width, all[:c.n])
		both := maps.Clone(blocks)
		roomy := made(t, 1000)
		laidAll(roomy, blocks)
		want, more, _ := plainAppend(roomy, root, all[c.n:])
		maps.Copy(both, more)
		for room := len(blocks); room <= len(both)+1; room++ {
			s := made(t, room)
			laidAll(s, blocks)
			l, e := appended(t, s, root, all[c.n:]...)
			if ok := room >= len(both); ok != (e == api.OK) || ok && l != want || !ok && (e != api.ErrStoreFull || l != (api.Link{})) {
				t.Errorf("%v, room %d of %d: %d", c, room, len(both), e)
			}
		}
	}
}

// TestMended: P15.2, a broken block that Append makes again is mended; one that it does not make is left.
func TestMended(t *testing.T) {
	all := []float32{1, 2, 3, 4, 5, 6, 7}
	s, root := filled(t, 1, all[:3]...)
	next := appends(t, s, root, all[3:]...)
	_, blocks, _ := plainAppend(s, root, all[3:])
	full := linkAt(t, s, next, spot{1, 0})
	for l := range blocks {
		if e := s.Force(l, []byte("broken")); e != api.OK {
			t.Fatal(e)
		}
	}
	if e := s.Force(full, []byte("broken")); e != api.OK {
		t.Fatal(e)
	}
	appended(t, s, root, all[3:]...)
	finds(t, s, next, 6, 7, api.OK)
	finds(t, s, next, 0, 0, api.ErrStoreBad)
}

// greatest: a store with a column of so many samples, all the same, and its root: its parts are few blocks.
func greatest(t *testing.T, width, n int, x float32) (*store.Store, api.Link) {
	t.Helper()
	blocks := map[api.Link]string{}
	// Of each level the full part, and the last one, if it is not full.
	leaf := func(n int) tale {
		l := slices.Repeat([]float32{x}, n)
		y := total(singles(l))
		y.link = laid(blocks, leafForm(l))
		return y
	}
	full, last, left := leaf(power(width, 1)), tale{}, n%power(width, 1)
	if left > 0 {
		last = leaf(left)
	}
	for level := 2; level <= height(width, n); level++ {
		row := slices.Repeat([]tale{full}, n%power(width, level)/power(width, level-1))
		if last.n > 0 {
			row = append(row, last)
		}
		last = tale{}
		if len(row) > 0 {
			last = total(row)
			last.link = laid(blocks, nodeForm(row))
		}
		row = slices.Repeat([]tale{full}, power(width, 1))
		full = total(row)
		full.link = laid(blocks, nodeForm(row))
	}
	top := full
	if last.n == n {
		top = last
	}
	root := laid(blocks, rootForm(width, &top))
	s := made(t, 5000)
	laidAll(s, blocks)
	return s, root
}

// TestMaxSamples: P15.2, a column of MaxSamples takes no more, one with one fewer takes one; the error comes behind those of samples and root, ahead of those of parts.
func TestMaxSamples(t *testing.T) {
	for _, width := range []int{1, 3, 7, 8} {
		s, root := greatest(t, width, api.MaxSamples, 1.5)
		if n, e := Len(s, root); n != api.MaxSamples || e != api.OK {
			t.Fatalf("Len: %d, %d", n, e)
		}
		finds(t, s, root, api.MaxSamples-1, 1.5, api.OK)
		finds(t, s, root, api.MaxSamples, 0, api.ErrColumnRange)
		sums(t, s, root, 0, api.MaxSamples, 1.5*api.MaxSamples, api.OK)
		sums(t, s, root, 1, api.MaxSamples-1, 1.5*(api.MaxSamples-2), api.OK)
		appended(t, s, root)
		appended(t, s, root, 1)
		appended(t, s, root, inf)
		if l, e := Append(s, root, 1); l != (api.Link{}) || e != api.ErrColumnFull {
			t.Errorf("Append to a full one: %d", e)
		}
		s, less := greatest(t, width, api.MaxSamples-1, 1.5)
		before := s.Copy()
		appended(t, s, less, 1.5, 1.5)
		if l, e := appended(t, s, less, 1.5); l != root || e != api.OK {
			t.Errorf("Append of the last one: another root, %d", e)
		}
		// The parts are not read.
		for _, l := range before.Links() {
			if l != less {
				before.Delete(l)
			}
		}
		for _, p := range []struct {
			samples []float32
			e       api.Errno
		}{{[]float32{1, 1}, api.ErrColumnFull}, {[]float32{1}, api.ErrStoreNone}, {[]float32{1, inf}, api.ErrColumnSample}, {nil, api.OK}, {make([]float32, api.MaxSamples), api.ErrColumnFull}} {
			if _, e := Append(before, less, p.samples...); e != p.e {
				t.Errorf("Append of %d: %d; want %d", len(p.samples), e, p.e)
			}
		}
	}
}

// TestAllAtOnce: P15.2 and P15.9, MaxSamples at once, and one more; all of them are read again.
func TestAllAtOnce(t *testing.T) {
	s, l := begun(t, 8)
	all := make([]float32, api.MaxSamples+1)
	for i := range all {
		all[i] = float32(i%1000) / 8
	}
	if k, e := Append(s, l, all...); k != (api.Link{}) || e != api.ErrColumnFull || s.Len() != 1 {
		t.Errorf("one more: %d", e)
	}
	all = all[:api.MaxSamples]
	blocks := map[api.Link]string{}
	want := columnOf(blocks, 8, all)
	if k := appends(t, s, l, all...); k != want || s.Len() != len(blocks)+1 {
		t.Fatalf("another root, %d blocks; want %d", s.Len(), len(blocks)+1)
	}
	half := appends(t, s, l, all[:777777]...)
	if k := appends(t, s, half, all[777777:]...); k != want {
		t.Errorf("another root in two pieces")
	}
	if n, e := Check(s, want); n != len(all) || e != api.OK {
		t.Errorf("Check: %d, %d", n, e)
	}
	if x, e := Slice(s, want, 0, len(all)); e != api.OK || !same32(x, all) {
		t.Errorf("Slice: %d", e)
	}
	d := sample.Dice(1)
	for range 40 {
		from := d.Below(len(all))
		to := from + d.Below(len(all)-from) + 1
		agree(t, s, want, span{from, to})
		finds(t, s, want, from, all[from], api.OK)
	}
}
