package depot

import (
	"trellis/api"
	"trellis/change"
	"trellis/column"
	"trellis/trie"
)

// carryOut carries an op out.
func (w *work) carryOut(x api.Op) {
	refuseIf(!mayBe(x), api.ErrDepotOp)
	refuseIf(!isName(x.Head) || usesOther(x) && !isName(x.Other), api.ErrDepotName)
	switch x.Kind {
	case api.OpSet:
		w.set(x)
	case api.OpDelete:
		w.delete(x)
	case api.OpAppend:
		w.append(x)
	case api.OpBranch:
		w.branch(x)
	case api.OpDrop:
		w.dropHead(x)
	case api.OpMerge:
		w.merge(x)
	}
}

// mayBe tells whether an op is of some kind, and has nothing but what that kind uses.
func mayBe(x api.Op) bool {
	switch x.Kind {
	case api.OpSet:
		x.Key, x.Value = nil, api.Value{}
	case api.OpDelete:
		x.Key = nil
	case api.OpAppend:
		x.Key, x.Samples = nil, nil
	case api.OpBranch:
		x.Other = ""
	case api.OpDrop:
	case api.OpMerge:
		if x.Ours && x.Theirs {
			return false
		}
		x.Other, x.Ours, x.Theirs = "", false, false
	default:
		return false
	}
	// What the kind uses has been taken out: nothing is to be left.
	return x.Other == "" && len(x.Key) == 0 && isZero(x.Value) && len(x.Samples) == 0 && !x.Ours && !x.Theirs
}

// isZero tells whether nothing is set in a value.
func isZero(v api.Value) bool {
	return v.Kind == api.KindNone && !v.Flag && !v.Neg && v.N == 0 && v.Bits == 0 && v.Text == "" &&
		len(v.Bytes) == 0 && v.Link == api.Link{} && len(v.Keys) == 0 && len(v.Items) == 0
}

// usesOther tells whether an op names a second head.
func usesOther(x api.Op) bool { return x.Kind == api.OpBranch || x.Kind == api.OpMerge }

func (w *work) set(x api.Op) {
	t := w.begun(x.Head)
	t.root = got(trie.Set(w.blocks, t.root, x.Key, x.Value))
}

func (w *work) delete(x api.Op) {
	t := w.opened(x.Head)
	root, _, e := trie.Delete(w.blocks, t.root, x.Key)
	t.root = got(root, e)
}

func (w *work) append(x api.Op) {
	t := w.begun(x.Head)
	v, is, e := trie.Get(w.blocks, t.root, x.Key)
	row := got(v, e).Link
	refuseIf(is && v.Kind != api.KindLink, api.ErrDepotRow)
	if !is {
		row = got(column.New(w.blocks, w.column))
	}
	row = got(column.Append(w.blocks, row, x.Samples...))
	t.root = got(trie.Set(w.blocks, t.root, x.Key, linked(row)))
}

func (w *work) branch(x api.Op) {
	_, is := w.find(x.Head)
	refuseIf(is, api.ErrDepotHead)
	l := w.other(x)
	refuseIf(w.isFull(), api.ErrDepotFull)
	w.put(x.Head, l)
}

func (w *work) dropHead(x api.Op) {
	_, is := w.find(x.Head)
	refuseIf(!is, api.ErrDepotHead)
	w.drop(x.Head)
	delete(w.tips, x.Head)
}

func (w *work) merge(x api.Op) {
	o := w.other(x)
	t := w.opened(x.Head)
	ours := got(ancestors(w.blocks, t.from...))
	theirs := got(ancestors(w.blocks, o))
	if ours.has(o) {
		return
	}
	base := w.base(t, ours, theirs)
	root, clashes, e := change.Merge(w.blocks, base, t.root, theirs.commits[o].Root, x.Theirs)
	t.root = got(root, e)
	refuseIf(len(clashes) > 0 && !x.Ours && !x.Theirs, api.ErrDepotClash)
	t.from = append(t.from, o)
}

// other tells the commit that an op's second head had ahead of the transaction.
func (w *work) other(x api.Op) api.Link {
	l, is := w.before.find(x.Other)
	refuseIf(!is, api.ErrDepotHead)
	return l
}

// base tells the root from which both sides of a merge have come: the empty one, if they have no commit in common.
func (w *work) base(t *tip, ours, theirs past) api.Link {
	if c, is := ours.shared(theirs); is {
		return c.Root
	}
	return got(trie.New(w.blocks, got(trie.Widths(w.blocks, t.root))))
}
