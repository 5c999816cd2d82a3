package pull

import (
	"cmp"
	"sync"
	"sync/atomic"

	"trellis/api"
)

// errand: a link whose block is wanted, and its place among all of them.
type errand struct {
	at   int
	link api.Link
}

// crew: workers that get blocks, and how far they have come.
type crew struct {
	get  func(api.Link) ([]byte, api.Errno)
	next chan errand   // closed when there are no more
	done chan struct{} // closed when a worker has met an error
	stop sync.Once     // several may meet one
	all  sync.WaitGroup
	got  atomic.Int64 // how many blocks have been got

	// By the links' places; each of their elements is written by one worker alone.
	blocks []api.Block
	errors []api.Errno
}

// gather tells the blocks of links in their order, got by so many workers; or the error of the first link that has one. No worker is left behind it.
func gather(links []api.Link, get func(api.Link) ([]byte, api.Errno), workers int) ([]api.Block, api.Errno) {
	c := crew{
		get:    get,
		next:   make(chan errand),
		done:   make(chan struct{}),
		blocks: make([]api.Block, len(links)),
		errors: make([]api.Errno, len(links)),
	}
	for range workers {
		c.all.Add(1)
		go c.work()
	}
	c.send(links)
	c.all.Wait()
	if int(c.got.Load()) == len(links) {
		return c.blocks, api.OK
	}
	// Links are received in the order in which they are sent, and a worker ends with what it has received: so nothing ahead of an error is left out, and the first one is known, whoever was quick.
	return nil, cmp.Or(c.errors...)
}

// send sends links to the workers, one behind the other, till one worker has met an error.
func (c *crew) send(links []api.Link) {
	defer close(c.next)
	for i, l := range links {
		select {
		case c.next <- errand{i, l}:
		case <-c.done:
			return
		}
	}
}

// work gets the blocks of the links that one worker receives, till there are no more or some worker has met an error.
func (c *crew) work() {
	defer c.all.Done()
	for {
		select {
		case x, more := <-c.next:
			if !more {
				return
			}
			c.fetch(x)
		case <-c.done:
			return
		}
	}
}

// fetch gets a link's block.
func (c *crew) fetch(x errand) {
	b, e := c.get(x.link)
	if e != api.OK {
		c.errors[x.at] = e
		c.stop.Do(func() { close(c.done) })
		return
	}
	c.blocks[x.at] = api.Block{Link: x.link, Bytes: b}
	c.got.Add(1)
}
