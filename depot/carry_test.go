package depot

// P21.7, P21.8, P21.13: heads that are carried from one depot to another.

import (
	"fmt"
	"math"
	"slices"
	"strings"
	"testing"

	"trellis/api"
	"trellis/archive"
)

// alike: a head here answers as one there, by all that is asked of heads.
func alike(t *testing.T, d *Depot, name string, other *Depot, their string) {
	t.Helper()
	for _, key := range []string{"row", "tree", "key0", "none"} {
		if a, b := asks(t, d, name, key), asks(t, other, their, key); a != b {
			t.Fatalf("%s here, %s there:\n%s\n%s", name, their, a, b)
		}
	}
}

// TestExport: an archive of the head's commit alone, whatever else stands there.
func TestExport(t *testing.T) {
	d, tree := rich(t)
	lays(d.Store(), under(api.CodecRaw, []byte("beside")), []byte("beside"))
	for _, name := range d.Heads() {
		b, e := d.Export(name)
		a, f := archive.Read(b)
		if e != api.OK || f.Code != api.OK || !slices.Equal(a.Roots, []api.Link{headOf(t, d, name)}) {
			t.Fatalf("%d, %v, %v", e, f, a.Roots)
		}
		if !slices.ContainsFunc(a.Blocks, func(x api.Block) bool { return x.Link == tree }) {
			t.Errorf("what a value names was not taken along")
		}
	}
	for _, name := range []string{"", "none", "\xff", strings.Repeat("n", 65)} {
		if b, e := d.Export(name); b != nil || e != api.ErrDepotHead {
			t.Errorf("%q: %d bytes, %d", name, len(b), e)
		}
	}
	for _, l := range d.Store().Links() {
		for _, spoil := range []func(*Depot){func(d *Depot) { d.Store().Delete(l) }, func(d *Depot) { force(d.Store(), l) }} {
			x := twin(d)
			spoil(x)
			asks(t, x, "main", "row")
			asks(t, x, "side", "row")
		}
	}
}

// TestImport: a head by any name that may be; blocks that stand there already, that are lost, that are forced.
func TestImport(t *testing.T) {
	d, _ := rich(t)
	b, _ := d.Export("side")
	a, _ := archive.Read(b)
	all := len(a.Blocks)
	for i, name := range []string{"side", "x", strings.Repeat("n", api.MaxName), "\x00", "\u00e4"} {
		other := madeOf(t, 1000, narrow, 1)
		changes(t, other, "some", sets("some", 6)...)
		stood := 0
		for j, x := range a.Blocks {
			if other.Store().Has(x.Link) {
				stood++
			} else if j%5 < i {
				force(other.Store(), x.Link)
			}
		}
		if n, f := imports(t, other, name, b); n != all-stood || f.Code != api.OK {
			t.Errorf("%q: %d, %v; want %d", name, n, f, all-stood)
		}
		alike(t, other, name, d, "side")
		checked(t, other, 3, api.OK) // the first commit of both heads is one
		changes(t, other, name, set(name, "more", 1))
	}
}

// TestImportErrors: which error counts: of the name, the head, the number of heads, the archive, its root, the room.
func TestImportErrors(t *testing.T) {
	d, _ := rich(t)
	good, _ := d.Export("main")
	a, _ := archive.Read(good)
	s := d.Store().Copy()
	noCommit, e := archive.Write(s, []api.Link{top(t, d, "main").Root})
	if e != api.OK {
		t.Fatal(e)
	}
	cut := good[:len(good)-1]
	_, short := archive.Read(cut)
	heads := full(t, api.MaxHeads)
	small := made(t, 3)
	changes(t, small, "head0", set("head0", "k", 1))
	for _, b := range [][]byte{good, cut, noCommit, nil} {
		for _, name := range []string{"", "\xff", strings.Repeat("n", api.MaxName+1)} {
			for _, x := range []*Depot{heads, small, d} {
				if n, f := imports(t, x, name, b); n != 0 || f != (api.Fault{Code: api.ErrDepotName}) {
					t.Errorf("%q: %d, %v", name, n, f)
				}
			}
		}
		for _, x := range []*Depot{heads, small} {
			if n, f := imports(t, x, "head0", b); n != 0 || f != (api.Fault{Code: api.ErrDepotHead}) {
				t.Errorf("%d, %v", n, f)
			}
		}
		if n, f := imports(t, heads, "new", b); n != 0 || f != (api.Fault{Code: api.ErrDepotFull}) {
			t.Errorf("%d, %v", n, f)
		}
	}
	for b, want := range map[string]api.Fault{string(cut): short, string(noCommit): {Code: api.ErrDepotBlock}, string(good): {Code: api.ErrStoreFull}} {
		if n, f := imports(t, small, "new", []byte(b)); n != 0 || f != want {
			t.Errorf("%d, %v; want %v", n, f, want)
		}
	}
	for room := len(a.Blocks) - 2; room < len(a.Blocks)+2; room++ {
		want := api.OK
		if room < len(a.Blocks) {
			want = api.ErrStoreFull
		}
		if _, f := imports(t, made(t, room), "new", good); f != (api.Fault{Code: want}) {
			t.Errorf("room for %d of %d: %v", room, len(a.Blocks), f)
		}
	}
	changes(t, heads, "head1", drop("head1"))
	if _, f := imports(t, heads, "new", good); f.Code != api.OK {
		t.Errorf("%v", f)
	}
}

// TestFetch: a head of another depot, of this one; blocks that stand there already, that are lost, that are forced.
func TestFetch(t *testing.T) {
	d, _ := rich(t)
	all := d.Store().Len()
	for workers := 1; workers <= api.MaxWorkers; workers++ {
		other := made(t, 1000)
		if n, e := fetches(t, other, d, "side", "got", workers); n != all || e != api.OK {
			t.Errorf("%d workers: %d, %d; want %d", workers, n, e, all)
		}
		alike(t, other, "got", d, "side")
		for i, l := range d.Store().Links() {
			if i%3 == 0 {
				force(other.Store(), l)
			}
		}
		if n, e := fetches(t, other, d, "side", "again", workers); n != (all+2)/3 || e != api.OK {
			t.Errorf("%d workers: %d, %d", workers, n, e)
		}
		if n, e := fetches(t, other, d, "main", "main", workers); n != 0 || e != api.OK {
			t.Errorf("%d workers: %d, %d", workers, n, e)
		}
		alike(t, other, "main", d, "main")
		checked(t, other, 3, api.OK)
	}
	if n, e := fetches(t, d, d, "side", "copy", 4); n != 0 || e != api.OK {
		t.Errorf("within one depot: %d, %d", n, e)
	}
	alike(t, d, "copy", d, "side")
	if n, e := fetches(t, d, d, "copy", "copy", 4); n != 0 || e != api.ErrDepotHead {
		t.Errorf("over itself: %d, %d", n, e)
	}
}

// TestFetchErrors: which error counts: of the name, the heads, their number, the commit, the workers, what is lacking, the room.
func TestFetchErrors(t *testing.T) {
	d, _ := rich(t)
	heads, other := full(t, api.MaxHeads), made(t, 1000)
	gone, bent := twin(d), twin(d)
	gone.Store().Delete(headOf(t, d, "side"))
	force(bent.Store(), headOf(t, d, "side"))
	refused := func(x, from *Depot, their, name string, workers int, want api.Errno) {
		t.Helper()
		if n, e := fetches(t, x, from, their, name, workers); n != 0 || e != want {
			t.Errorf("%q as %q, %d workers: %d, %d; want %d", their, name, workers, n, e, want)
		}
	}
	for _, workers := range []int{0, 1, 8, 9, -1, math.MinInt, math.MaxInt} {
		for _, from := range []*Depot{d, gone, bent} {
			for _, name := range []string{"", "\xff", strings.Repeat("n", api.MaxName+1)} {
				for _, x := range []*Depot{heads, other, d} {
					refused(x, from, "side", name, workers, api.ErrDepotName)
					refused(x, from, "none", name, workers, api.ErrDepotName)
				}
			}
			for _, their := range []string{"none", "", "\xff"} {
				refused(other, from, their, "new", workers, api.ErrDepotHead)
				refused(heads, from, their, "new", workers, api.ErrDepotHead)
				refused(heads, from, their, "head0", workers, api.ErrDepotHead)
			}
			refused(heads, from, "side", "head0", workers, api.ErrDepotHead)
			refused(d, from, "side", "main", workers, api.ErrDepotHead)
			refused(heads, from, "side", "new", workers, api.ErrDepotFull)
		}
		refused(other, gone, "side", "new", workers, api.ErrStoreNone)
		refused(other, bent, "side", "new", workers, api.ErrStoreBad)
		if workers < 1 || workers > 8 {
			refused(other, d, "side", "new", workers, api.ErrPullPlan)
			refused(d, d, "side", "new", workers, api.ErrPullPlan)
		}
	}
	for _, l := range d.Store().Links() {
		for want, spoil := range map[api.Errno]func(*Depot){api.ErrStoreNone: func(d *Depot) { d.Store().Delete(l) }, api.ErrStoreBad: func(d *Depot) { force(d.Store(), l) }} {
			x := twin(d)
			spoil(x)
			refused(other, x, "side", "new", 3, want)
			refused(x, x, "side", "new", 3, want)
		}
	}
	all := d.Store().Len()
	for room := all - 2; room < all+2; room++ {
		want := api.OK
		if room < all {
			want = api.ErrStoreFull
		}
		if _, e := fetches(t, made(t, room), d, "side", "new", 3); e != want {
			t.Errorf("room for %d of %d: %d", room, all, e)
		}
	}
	changes(t, heads, "head1", drop("head1"))
	if _, e := fetches(t, heads, d, "side", "new", 3); e != api.OK {
		t.Errorf("%d", e)
	}
}

// TestFetchLost: what the other depot's commit is, is read there, be it right here.
func TestFetchLost(t *testing.T) {
	d, _ := rich(t)
	other := twin(d)
	for _, name := range d.Heads() {
		d.Store().Delete(headOf(t, d, name))
	}
	if n, e := fetches(t, other, d, "main", "new", 1); n != 0 || e != api.ErrStoreNone {
		t.Errorf("%d, %d", n, e)
	}
	if n, e := fetches(t, d, other, "main", "new", 1); n != 1 || e != api.OK {
		t.Errorf("%d, %d", n, e)
	}
	// The head by whose name the commit was known here is whole again.
	alike(t, d, "main", d, "new")
}

// TestCarried: P21.13, there and back, by whichever way, and on from there: the same ops make the same commits.
func TestCarried(t *testing.T) {
	d, _ := rich(t)
	there, on := madeOf(t, 1000, narrow, 1), madeOf(t, 1000, narrow, 1)
	for i, name := range d.Heads() {
		b, _ := d.Export(name)
		if _, f := imports(t, there, name, b); f.Code != api.OK {
			t.Fatal(f)
		}
		if _, e := fetches(t, on, there, name, name, 1+i); e != api.OK {
			t.Fatal(e)
		}
	}
	for i := range 3 {
		for _, x := range []*Depot{d, there, on} {
			changes(t, x, "main side", set("main", fmt.Sprint("m", i), 1), set("side", "s", uint64(i)), merge("side", "main"))
			swept(t, x, 0)
		}
		for _, name := range d.Heads() {
			alike(t, d, name, there, name)
			alike(t, d, name, on, name)
			if a, b := headOf(t, d, name), headOf(t, on, name); a != b {
				t.Errorf("%v, %v", a, b)
			}
		}
	}
}
