package change

import (
	"bytes"
	"iter"

	"trellis/api"
	"trellis/value"
)

// pair: what two rows have of one thing; the zero one stands for what a row has not.
type pair[T any] struct {
	a, b     T
	inA, inB bool
}

// either tells the one that is there, the first row's ahead of the second's.
func (p pair[T]) either() T {
	if p.inA {
		return p.a
	}
	return p.b
}

// abreast may be ranged over: two rows that rise by an order, side by side.
func abreast[T any](a, b []T, order func(T, T) int) iter.Seq[pair[T]] {
	return func(yield func(pair[T]) bool) {
		for i, j := 0, 0; i < len(a) || j < len(b); {
			var p pair[T]
			p.inA = j == len(b) || i < len(a) && order(a[i], b[j]) <= 0
			p.inB = i == len(a) || j < len(b) && order(a[i], b[j]) >= 0
			if p.inA {
				p.a = a[i]
				i++
			}
			if p.inB {
				p.b = b[j]
				j++
			}
			if !yield(p) {
				return
			}
		}
	}
}

func entryOrder(a, b api.Entry) int { return bytes.Compare(a.Key, b.Key) }

func changeOrder(a, b api.Change) int { return bytes.Compare(a.Key, b.Key) }

// between tells the changes that make of some entries others; both rise by their keys.
func between(had, has []api.Entry) []api.Change {
	var l []api.Change
	for p := range abreast(had, has, entryOrder) {
		c := api.Change{Key: p.either().Key, Had: p.inA, Has: p.inB, Old: p.a.Value, New: p.b.Value}
		if changes(c) {
			l = append(l, c)
		}
	}
	return l
}

// joined tells those changes of the second row that are to be laid upon what the first one has made, and the keys that clash.
func joined(one, two []api.Change, other bool) (l []api.Change, clashes [][]byte) {
	for p := range abreast(one, two, changeOrder) {
		clash := p.inA && p.inB && !agree(p.a, p.b)
		if clash {
			clashes = append(clashes, p.a.Key)
		}
		if !p.inA || clash && other {
			l = append(l, p.b)
		}
	}
	return l, clashes
}

// agree tells whether two changes of one key come to the same.
func agree(a, b api.Change) bool {
	return a.Has == b.Has && (!a.Has || equal(a.New, b.New))
}

// mayBe tells whether changes can be a patch.
func mayBe(l []api.Change) bool {
	for i, c := range l {
		if i > 0 && changeOrder(l[i-1], c) >= 0 || !changes(c) {
			return false
		}
		if !c.Had && !isZero(c.Old) || !c.Has && !isZero(c.New) {
			return false
		}
	}
	return true
}

// changes tells whether a change changes something.
func changes(c api.Change) bool {
	if c.Had && c.Has {
		return !equal(c.Old, c.New)
	}
	return c.Had || c.Has
}

// equal tells whether two values are trees and equal; of what is no tree nothing is equal.
func equal(v, w api.Value) bool {
	return value.Check(v) == api.OK && value.Check(w) == api.OK && value.Equal(v, w)
}

// isZero tells whether a value is the zero one, in which an empty list is as good as none.
func isZero(v api.Value) bool {
	return v.Kind == api.KindNone && !v.Flag && !v.Neg && v.N == 0 && v.Bits == 0 && v.Text == "" &&
		len(v.Bytes) == 0 && v.Link == api.Link{} && len(v.Keys) == 0 && len(v.Items) == 0
}
