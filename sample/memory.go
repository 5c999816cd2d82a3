package sample

import (
	"slices"

	"trellis/api"
)

// Apart tells whether no two lists of these values have memory in common, their spare room too. It writes over all of them.
func Apart(values ...api.Value) bool { return TypedApart(nil, values...) }

// TypedApart tells whether no two lists of these typed trees and values have memory in common, their spare room too. It writes over all of them.
func TypedApart(typed []api.Typed, values ...api.Value) bool {
	var octets [][]byte
	var keys [][]string
	var items [][]api.Value
	var inner [][]api.Typed
	left, more := slices.Clone(values), slices.Clone(typed)
	for len(more) > 0 {
		x := more[len(more)-1]
		more = append(more[:len(more)-1], x.Items...)
		left, keys, inner = append(left, x.Value), append(keys, x.Keys), append(inner, x.Items)
	}
	for len(left) > 0 {
		v := left[len(left)-1]
		left = append(left[:len(left)-1], v.Items...)
		octets, keys, items = append(octets, v.Bytes), append(keys, v.Keys), append(items, v.Items)
	}
	return unshared(octets, 1, func(b byte) bool { return b == 1 }) &&
		unshared(keys, "mark", func(s string) bool { return s == "mark" }) &&
		unshared(items, Whole(1), func(v api.Value) bool { return v.N == 1 }) &&
		unshared(inner, api.Typed{Case: 1}, func(x api.Typed) bool { return x.Case == 1 })
}

// unshared tells whether a mark that is written through one list is never seen through another.
func unshared[T any](lists [][]T, mark T, marked func(T) bool) bool {
	for _, list := range lists {
		clear(list[:cap(list)])
	}
	for _, list := range lists {
		for i := range list[:cap(list)] {
			if marked(list[:cap(list)][i]) {
				return false
			}
			list[:cap(list)][i] = mark
		}
	}
	return true
}
