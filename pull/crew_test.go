package pull

// The workers by themselves, with a store that is slow, or quick, or lacks what it likes: P20.2.

import (
	"runtime"
	"slices"
	"strconv"
	"sync"
	"sync/atomic"
	"testing"
	"time"

	"trellis/api"
	"trellis/sample"
)

// numbered: so many links, each with its number as its digest.
func numbered(n int) []api.Link {
	var all []api.Link
	for i := range n {
		all = append(all, itself(api.CodecRaw, strconv.Itoa(i)))
	}
	return all
}

// numberOf: the number of such a link.
func numberOf(l api.Link) int {
	n, _ := strconv.Atoi(l.Digest)
	return n
}

// gathers: gather tells the blocks of all links in their order; or just that error and none.
func gathers(t *testing.T, what string, n, workers int, want api.Errno, get func(api.Link) ([]byte, api.Errno)) {
	t.Helper()
	all := numbered(n)
	type answer struct {
		blocks []api.Block
		e      api.Errno
	}
	told := make(chan answer, 1)
	go func() {
		blocks, e := gather(all, get, workers)
		told <- answer{blocks, e}
	}()
	select {
	case x := <-told:
		var got []api.Link
		for _, b := range x.blocks {
			if string(b.Bytes) != b.Link.Digest {
				t.Errorf("%s, %d workers: %q under %s", what, workers, b.Bytes, b.Link.Digest)
			}
			got = append(got, b.Link)
		}
		if want != api.OK {
			all = nil
		}
		if x.e != want || !slices.Equal(got, all) {
			t.Errorf("%s, %d workers: %d blocks, %d; want %d", what, workers, len(got), x.e, want)
		}
	case <-time.After(time.Minute):
		t.Fatalf("%s, %d workers: it does not end", what, workers)
	}
}

// TestOrder: blocks are told in the order of their links, whoever got them, and when.
func TestOrder(t *testing.T) {
	for workers := 1; workers <= api.MaxWorkers; workers++ {
		for _, n := range []int{0, 1, 2, 7, 8, 9, 1000} {
			gathers(t, strconv.Itoa(n), n, workers, api.OK, func(l api.Link) ([]byte, api.Errno) {
				for range numberOf(l) * 7 % 5 {
					runtime.Gosched()
				}
				return []byte(l.Digest), api.OK
			})
		}
	}
}

// TestAtOneTime: as many workers as are asked for get blocks at one time, and no more.
func TestAtOneTime(t *testing.T) {
	for workers := 1; workers <= api.MaxWorkers; workers++ {
		var now atomic.Int64
		var together sync.WaitGroup
		together.Add(workers)
		gathers(t, "together", 100, workers, api.OK, func(l api.Link) ([]byte, api.Errno) {
			if n := now.Add(1); n > int64(workers) {
				t.Errorf("%d at one time; want %d", n, workers)
			}
			if numberOf(l) < workers {
				together.Done()
				together.Wait()
				// So that one worker too many would come to them.
				time.Sleep(time.Millisecond)
			}
			now.Add(-1)
			return []byte(l.Digest), api.OK
		})
	}
}

// TestFirstError: of several errors the first link's counts, though a later one is met ahead of it.
func TestFirstError(t *testing.T) {
	for workers := 2; workers <= api.MaxWorkers; workers++ {
		for range 50 {
			late := make(chan struct{})
			gathers(t, "the second one first", 100, workers, api.ErrStoreBad, func(l api.Link) ([]byte, api.Errno) {
				switch numberOf(l) {
				case 0:
					<-late
					for range 20 {
						runtime.Gosched()
					}
					return nil, api.ErrStoreBad
				case 1:
					close(late)
					return nil, api.ErrStoreNone
				}
				return nil, api.ErrWalkBlock
			})
		}
	}
}

// TestAnyErrors: errors at whichever links, by workers of whatever haste: the first link's counts.
func TestAnyErrors(t *testing.T) {
	refused := 0
	for seed := range 2000 {
		d := sample.Dice(seed)
		n := 1 + d.Below(40)
		errors, naps, want := make([]api.Errno, n), make([]int, n), api.OK
		for range d.Below(6) {
			errors[d.Below(n)] = api.Errno(1 + d.Below(200))
		}
		for i := range n {
			naps[i] = d.Below(4)
			if want == api.OK {
				want = errors[i]
			}
		}
		if want != api.OK {
			refused++
		}
		gathers(t, strconv.Itoa(seed), n, 1+d.Below(api.MaxWorkers), want, func(l api.Link) ([]byte, api.Errno) {
			i := numberOf(l)
			for range naps[i] {
				runtime.Gosched()
			}
			if errors[i] != api.OK {
				return nil, errors[i]
			}
			return []byte(l.Digest), api.OK
		})
	}
	if refused < 500 || refused > 1900 {
		t.Errorf("%d are refused: too few to tell, or too many", refused)
	}
}

// TestStops: when one worker has met an error, the others go on with few links more, and not with all of them.
func TestStops(t *testing.T) {
	for workers := 1; workers <= api.MaxWorkers; workers++ {
		var asked atomic.Int64
		met := make(chan struct{})
		gathers(t, "an error at the first link", 2000, workers, api.ErrStoreNone, func(l api.Link) ([]byte, api.Errno) {
			asked.Add(1)
			if numberOf(l) == 0 {
				close(met)
				return nil, api.ErrStoreNone
			}
			<-met
			// So that it is not the haste of the others that counts.
			time.Sleep(time.Millisecond)
			return []byte(l.Digest), api.OK
		})
		if n := asked.Load(); n > 1000 {
			t.Errorf("%d workers: %d links", workers, n)
		}
	}
}

// TestWorkersEnd: behind gather no worker gets anything, with an error and without.
func TestWorkersEnd(t *testing.T) {
	for seed := range 500 {
		d := sample.Dice(seed)
		bad, workers := d.Below(60), 1+d.Below(api.MaxWorkers)
		var answered atomic.Bool
		var now atomic.Int64
		gather(numbered(40), func(l api.Link) ([]byte, api.Errno) {
			now.Add(1)
			defer now.Add(-1)
			for range 3 {
				runtime.Gosched()
			}
			if answered.Load() {
				t.Errorf("seed %d: a worker is left", seed)
			}
			if numberOf(l) == bad {
				return nil, api.ErrStoreNone
			}
			return nil, api.OK
		}, workers)
		answered.Store(true)
		if now.Load() != 0 {
			t.Fatalf("seed %d: %d workers are left", seed, now.Load())
		}
	}
}
