package store

import (
	"fmt"
	"sync"
	"sync/atomic"
	"testing"

	"trellis/api"
	"trellis/sample"
)

// event is a call, what it answered, and when it began and ended, by a count that all goroutines share.
type event struct {
	call       call
	told       string
	begin, end int64
}

// history tells what each goroutine has done: all calls of a script at a time.
func history(s *Store, scripts [][]call) [][]event {
	var count atomic.Int64
	var all sync.WaitGroup
	begin := make(chan struct{})
	out := make([][]event, len(scripts))
	for i, script := range scripts {
		all.Add(1)
		go func() {
			defer all.Done()
			<-begin
			for _, c := range script {
				x := event{call: c, begin: count.Add(1)}
				x.told = c.on(s)
				x.end = count.Add(1)
				out[i] = append(out[i], x)
			}
		}()
	}
	close(begin)
	all.Wait()
	return out
}

// ordered tells whether there is a row of all calls, none ahead of one that had ended when it began, in which each answers what it did, and which leaves what is there.
func ordered(p *plain, left [][]event, end string) bool {
	none, earliest := true, int64(1)<<62
	for _, row := range left {
		if len(row) > 0 {
			none, earliest = false, min(earliest, row[0].end)
		}
	}
	if none {
		return wholly(p) == end
	}
	for i, row := range left {
		if len(row) == 0 || row[0].begin > earliest {
			continue
		}
		next := p.copy()
		if row[0].call.plainly(next) != row[0].told {
			continue
		}
		left[i] = row[1:]
		if ordered(next, left, end) {
			return true
		}
		left[i] = row
	}
	return false
}

// TestOneMoment: P13.8, any calls of several goroutines at a time: there is an order in which each of them is done as if at one moment.
func TestOneMoment(t *testing.T) {
	for seed := range 3000 {
		d := sample.Dice(seed)
		room := 1 + d.Below(5)
		s, p := made(t, room), &plain{room: room}
		for range d.Below(4) {
			c := anyCall(&d)
			c.on(s)
			c.plainly(p)
		}
		scripts := make([][]call, 2+d.Below(3))
		for i := range scripts {
			for range 6 {
				scripts[i] = append(scripts[i], anyCall(&d))
			}
		}
		all := history(s, scripts)
		if !ordered(p, all, whole(s)) {
			t.Fatalf("seed %d: no order of these calls tells what they told: %v", seed, all)
		}
	}
}

// watch asks a store, over and over, till it is told to end.
func watch(done <-chan struct{}, all *sync.WaitGroup, look func()) {
	all.Add(1)
	go func() {
		defer all.Done()
		for {
			select {
			case <-done:
				return
			default:
				look()
			}
		}
	}()
}

// TestPairs: P13.8, blocks that come by one Add, and change their bytes by one Force, are never seen half done: neither by what stands nor by how many bytes there are.
func TestPairs(t *testing.T) {
	s, done := made(t, 10000), make(chan struct{})
	var writers, watchers sync.WaitGroup
	pair := func(k, i int) []api.Block {
		return []api.Block{blockOf(fmt.Sprintf("%d %03d +", k, i)), blockOf(fmt.Sprintf("%d %03d", k, i))}
	}
	const both = 7 + 5
	watch(done, &watchers, func() {
		if size := s.Size(); size%both != 0 {
			t.Errorf("Size %d", size)
		}
	})
	watch(done, &watchers, func() {
		if n := s.Len(); n%2 != 0 {
			t.Errorf("Len %d", n)
		}
	})
	watch(done, &watchers, func() {
		if n := len(s.Links()); n%2 != 0 {
			t.Errorf("%d links", n)
		}
	})
	// Nothing goes away here: so what is asked second tells as much as what is asked first, or more.
	watch(done, &watchers, func() {
		n := s.Len()
		size := s.Size()
		if m := s.Len(); n/2*both > size || size > m/2*both {
			t.Errorf("Len %d, then Size %d, then Len %d", n, size, m)
		}
	})
	watch(done, &watchers, func() {
		x := s.Copy()
		sum := 0
		for _, l := range x.Links() {
			b, e := x.Get(l)
			if e != api.OK {
				t.Errorf("Get in a copy: %d", e)
			}
			sum += len(b)
		}
		if x.Size() != sum || x.Len()%2 != 0 || sum != x.Len()/2*both {
			t.Errorf("a copy of %d blocks, Size %d, in truth %d", x.Len(), x.Size(), sum)
		}
	})
	for k := range 4 {
		writers.Add(1)
		go func() {
			defer writers.Done()
			for i := range 1000 {
				if n, e := s.Add(pair(k, i)...); n != 2 || e != api.OK {
					t.Errorf("Add: %d, %d", n, e)
				}
				if n, e := s.Add(append(pair(k, i), under(linkOf("a"), "b"))...); n != 0 || e != api.ErrStoreBad {
					t.Errorf("Add with a fault: %d, %d", n, e)
				}
				if e := s.Force(pair(k, i)[0].Link, pair(k, i)[0].Bytes); e != api.OK {
					t.Errorf("Force: %d", e)
				}
			}
		}()
	}
	writers.Wait()
	close(done)
	watchers.Wait()
	counts(t, s, 4*1000*2, 4*1000*both)
}

// TestLastPlaces: P13.8, of many goroutines that want the last places just as many get them as there are.
func TestLastPlaces(t *testing.T) {
	for round := range 50 {
		s := made(t, 10)
		var laid, full atomic.Int64
		var all sync.WaitGroup
		for k := range 8 {
			all.Add(1)
			go func() {
				defer all.Done()
				for i := range 5 {
					x := blockOf(fmt.Sprint(round, k, i))
					e := api.OK
					switch i % 3 {
					case 0:
						_, e = s.Put(api.CodecRaw, x.Bytes)
					case 1:
						_, e = s.Add(x)
					default:
						e = s.Force(x.Link, x.Bytes)
					}
					switch e {
					case api.OK:
						laid.Add(1)
					case api.ErrStoreFull:
						full.Add(1)
					}
				}
			}()
		}
		all.Wait()
		if laid.Load() != 10 || full.Load() != 30 || s.Len() != 10 {
			t.Fatalf("%d laid, %d refused, Len %d", laid.Load(), full.Load(), s.Len())
		}
	}
}

// TestOneOfMany: P13.8, of many goroutines that add one block just one is told that it came, of many that delete it just one that it was there.
func TestOneOfMany(t *testing.T) {
	s := made(t, 1)
	for round := range 500 {
		x := blockOf(fmt.Sprint(round))
		var came, went atomic.Int64
		var all sync.WaitGroup
		several := func(do func()) {
			for range 6 {
				all.Add(1)
				go func() {
					defer all.Done()
					do()
				}()
			}
			all.Wait()
		}
		several(func() {
			n, e := s.Add(x, x)
			if e != api.OK {
				t.Errorf("Add: %d", e)
			}
			came.Add(int64(n))
		})
		several(func() {
			if s.Delete(x.Link) {
				went.Add(1)
			}
		})
		if came.Load() != 1 || went.Load() != 1 {
			t.Fatalf("it came %d times and went %d times", came.Load(), went.Load())
		}
		counts(t, s, 0, 0)
	}
}

// TestNeverOther: P13.7, P13.8, while a block is broken, mended and deleted, nothing but its own bytes is ever told.
func TestNeverOther(t *testing.T) {
	s, done, x := made(t, 1), make(chan struct{}), blockOf("right")
	var watchers sync.WaitGroup
	for range 3 {
		watch(done, &watchers, func() {
			b, e := s.Get(x.Link)
			switch {
			case e == api.OK && string(b) == "right", e == api.ErrStoreBad && b == nil, e == api.ErrStoreNone && b == nil:
			default:
				t.Errorf("Get: %q, %d", b, e)
			}
			if size := s.Size(); size != 0 && size != 5 && size != 7 {
				t.Errorf("Size %d", size)
			}
		})
	}
	for i := range 30000 {
		if e := s.Force(x.Link, []byte("another")); e != api.OK {
			t.Errorf("Force: %d", e)
		}
		if i%3 > 0 {
			adds(t, s, 1, api.OK, x)
		}
		if i%2 > 0 {
			s.Delete(x.Link)
		}
	}
	close(done)
	watchers.Wait()
}

// TestSizeOfForce: P13.8, while a block is laid over another one, there are the bytes of either, never none or both; in a copy just those that stand there.
func TestSizeOfForce(t *testing.T) {
	l := linkOf("right")
	s, done := filled(t, 1, under(l, "right")), make(chan struct{})
	var watchers sync.WaitGroup
	for range 2 {
		watch(done, &watchers, func() {
			if size := s.Size(); size != 5 && size != 7 {
				t.Errorf("Size %d", size)
			}
		})
		watch(done, &watchers, func() {
			x := s.Copy()
			if _, e := x.Get(l); e == api.OK && x.Size() != 5 || e == api.ErrStoreBad && x.Size() != 7 {
				t.Errorf("Size %d of a copy; Get: %d", x.Size(), e)
			}
		})
	}
	for range 30000 {
		if s.Force(l, []byte("another")) != api.OK || s.Force(l, []byte("right")) != api.OK {
			t.Errorf("Force")
		}
	}
	close(done)
	watchers.Wait()
}
