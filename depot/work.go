package depot

import (
	"slices"

	"trellis/api"
	"trellis/store"
	"trellis/trie"
	"trellis/value"
)

// work: a transaction, as far as it has come. What refuses it leaves by a panic, which Do takes up: by then nothing but the work's own has changed.
type work struct {
	heads        // as they are by now; one that the transaction has begun has the zero link
	before heads // as they were ahead of the transaction
	plan
	blocks *store.Store    // a copy of the depot's
	tips   map[string]*tip // of the heads that have been opened or begun
	made   []api.Link      // the new commits
}

// tip: what a head's next commit is to hold.
type tip struct {
	root api.Link
	from []api.Link
	was  api.Link // the root of the commit that the head has; the zero link, if it has none
}

// begin tells a transaction in which nothing has been done.
func begin(d *Depot) *work {
	return &work{heads: d.again(), before: d.heads, plan: d.plan, blocks: d.store.Copy(), tips: map[string]*tip{}}
}

// refuseIf gives the transaction up, if that is so.
func refuseIf(so bool, e api.Errno) {
	if so {
		panic(e)
	}
}

// got tells what a call has told; its error gives the transaction up.
func got[T any](told T, e api.Errno) T {
	refuseIf(e != api.OK, e)
	return told
}

// reasonOf tells the error with which a transaction was given up; OK, if it was not.
func reasonOf(given any) api.Errno {
	if given == nil {
		return api.OK
	}
	return given.(api.Errno)
}

// opened tells the tip of a head that there is.
func (w *work) opened(name string) *tip {
	l, is := w.find(name)
	refuseIf(!is, api.ErrDepotHead)
	t, is := w.tips[name]
	if !is {
		root := w.read(l).Root
		t = &tip{root, []api.Link{l}, root}
		w.tips[name] = t
	}
	return t
}

// begun tells the tip of a head, which is made, if there is none.
func (w *work) begun(name string) *tip {
	if _, is := w.find(name); is {
		return w.opened(name)
	}
	refuseIf(w.isFull(), api.ErrDepotFull)
	t := &tip{root: got(trie.New(w.blocks, w.trie))}
	w.tips[name] = t
	w.put(name, api.Link{})
	return t
}

// read reads a commit.
func (w *work) read(l api.Link) api.Commit { return got(readCommit(w.blocks, l)) }

// commit makes the commits of all heads that are to have another one, by names.
func (w *work) commit(note string) {
	for _, name := range w.names() {
		t, is := w.tips[name]
		// A head that was begun is never as its commit, which is the zero link.
		if !is || t.root == t.was && slices.Equal(t.from, []api.Link{w.commits[name]}) {
			continue
		}
		at := behind(t.from, w.read)
		refuseIf(at > api.MaxCommit, api.ErrDepotFull)
		l := got(w.blocks.Put(api.CodecTree, form(api.Commit{At: at, From: t.from, Root: t.root, Note: note})))
		w.put(name, l)
		w.made = append(w.made, l)
	}
}

// fresh tells the blocks that can be reached from the new commits, and that are not right in the depot's store. A walk that ends at what is right there would not do: behind such a block may be one that was lost, and that the transaction has made again.
func (w *work) fresh(s *store.Store) []api.Block {
	var blocks []api.Block
	// What is lacking in the copy is passed: the walk has no error.
	follow(w.made, func(l api.Link) ([]api.Link, api.Errno) {
		b, e := s.Get(l)
		if e != api.OK {
			if b, e = w.blocks.Get(l); e != api.OK {
				return nil, api.OK
			}
			blocks = append(blocks, api.Block{Link: l, Bytes: b})
		}
		return value.Links(treeOf(l, b)), api.OK
	})
	return blocks
}
