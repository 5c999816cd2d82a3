package value

import (
	"cmp"
	"slices"
	"strings"

	"trellis/api"
)

// alike tells whether two lists are equally long, and each item of the one is the same as the other's at its place.
func alike[T any](a, b []T, same func(x, y T) bool) bool {
	if len(a) != len(b) {
		return false
	}
	for i := range a {
		if !same(a[i], b[i]) {
			return false
		}
	}
	return true
}

// picked tells the items at these places of a list, in the places' order.
func picked[T any](from []T, places []int) []T {
	var list []T
	for _, at := range places {
		list = append(list, from[at])
	}
	return list
}

// order tells the places of a map's entries, in keys' order.
func order(v api.Value) []int {
	// What is no tree may have a key without an item, or an item without a key: that is no entry.
	places := make([]int, min(len(v.Keys), len(v.Items)))
	for i := range places {
		places[i] = i
	}
	slices.SortFunc(places, func(i, j int) int { return against(v.Keys[i], v.Keys[j]) })
	return places
}

// against tells by its sign how the one key stands to the other.
func against(a, b string) int {
	if len(a) != len(b) {
		return cmp.Compare(len(a), len(b))
	}
	return strings.Compare(a, b)
}

// fresh tells a value again, in new memory.
func fresh(v api.Value) api.Value { return remade(v, fresh) }

// remade tells a value in new memory, each item as again tells it.
func remade(v api.Value, again func(api.Value) api.Value) api.Value {
	var items []api.Value
	for _, item := range v.Items {
		items = append(items, again(item))
	}
	v.Bytes = append([]byte(nil), v.Bytes...)
	v.Keys = append([]string(nil), v.Keys...)
	v.Items = items
	return v
}
