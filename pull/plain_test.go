package pull

// The chapter read a second time, plainly: one block behind the other.

import (
	"slices"
	"testing"

	"trellis/api"
	"trellis/store"
	"trellis/walk"
)

// plainPull: what a Pull by a right number of workers does.
func plainPull(to, from *store.Store, roots []api.Link) (int, api.Errno) {
	there, lacking, e := walk.Reach(from, roots...)
	if e != api.OK {
		return 0, e
	}
	for _, l := range lacking {
		if _, e := from.Get(l); e != api.OK {
			return 0, e
		}
		return 0, api.ErrWalkBlock
	}
	var blocks []api.Block
	for _, l := range there {
		b, e := from.Get(l)
		if e != api.OK {
			return 0, e
		}
		blocks = append(blocks, api.Block{Link: l, Bytes: b})
	}
	return to.Add(blocks...)
}

// twin: a copy of both stores; one copy, if they are one.
func twin(to, from *store.Store) (*store.Store, *store.Store) {
	if to == from {
		both := to.Copy()
		return both, both
	}
	return to.Copy(), from.Copy()
}

// pulls: Pull, held against the plain reading, by each number of workers on copies of both stores, and by one of them on the stores themselves. The first store is as it was, the other one beside an error.
func pulls(t *testing.T, to, from *store.Store, roots ...api.Link) (int, api.Errno) {
	t.Helper()
	plainTo, plainFrom := twin(to, from)
	want, bad := plainPull(plainTo, plainFrom, roots)
	wantTo, wantFrom := standing(plainTo), standing(plainFrom)
	if bad != api.OK && wantTo != standing(to) || to != from && wantFrom != standing(from) {
		t.Fatalf("Pull of %v: the plain reading has changed a store", roots)
	}
	before := slices.Clone(roots)
	once := func(to, from *store.Store, workers int) {
		t.Helper()
		n, e := Pull(to, from, roots, workers)
		if n != want || e != bad {
			t.Fatalf("Pull of %v by %d workers: %d, %d; want %d, %d", roots, workers, n, e, want, bad)
		}
		if standing(to) != wantTo || standing(from) != wantFrom {
			t.Fatalf("Pull of %v by %d workers: a store is another one than it should be", roots, workers)
		}
		if !slices.Equal(roots, before) {
			t.Fatalf("Pull by %d workers: the roots have changed", workers)
		}
	}
	for workers := 1; workers <= api.MaxWorkers; workers++ {
		x, y := twin(to, from)
		once(x, y, workers)
	}
	once(to, from, 1+len(roots)%api.MaxWorkers)
	return want, bad
}

// lays: Pull lays just so many blocks.
func lays(t *testing.T, what string, to, from *store.Store, n int, roots ...api.Link) {
	t.Helper()
	if k, e := pulls(t, to, from, roots...); k != n || e != api.OK {
		t.Errorf("%s: %d, %d; want %d", what, k, e, n)
	}
}

// refuses: Pull tells just that error.
func refuses(t *testing.T, what string, to, from *store.Store, want api.Errno, roots ...api.Link) {
	t.Helper()
	if n, e := pulls(t, to, from, roots...); n != 0 || e != want {
		t.Errorf("%s: %d, %d; want %d", what, n, e, want)
	}
}

// great: Pull by few workers and many, of stores that are too great to be held against the plain reading: into a new copy each time, and just such an answer; the copies have so many blocks then.
func great(t *testing.T, what string, to, from *store.Store, roots []api.Link, want int, bad api.Errno, blocks int) {
	t.Helper()
	size, left := from.Size(), from.Len()
	for _, workers := range []int{1, 3, api.MaxWorkers} {
		x := to.Copy()
		if n, e := Pull(x, from, roots, workers); n != want || e != bad || x.Len() != blocks {
			t.Errorf("%s, %d workers: %d, %d, %d blocks; want %d, %d, %d", what, workers, n, e, x.Len(), want, bad, blocks)
		}
		if from.Size() != size || from.Len() != left {
			t.Errorf("%s, %d workers: the first store has changed", what, workers)
		}
	}
}
