package value

import (
	"bytes"
	"math"
	"strconv"
	"unicode/utf8"

	"trellis/api"
)

// What stands in this file is a plain second reading of DOC.md's section 'Trees' and of the chapter.

// part is a value within another one, and how many lists and maps stand about it.
type part struct {
	v     api.Value
	about int
}

// parts tells all values in a value, each ahead of its items, down to those that so many lists and maps stand about.
func parts(v api.Value, about, down int) []part {
	list := []part{{v, about}}
	if v.Kind != api.KindList && v.Kind != api.KindMap || about >= down {
		return list
	}
	for _, item := range v.Items {
		list = append(list, parts(item, about+1, down)...)
	}
	return list
}

// uses tells whether a kind uses a field, by the field's name.
func uses(kind int, field string) bool {
	for _, name := range map[int][]string{
		api.KindBool:  {"Flag"},
		api.KindInt:   {"Neg", "N"},
		api.KindFloat: {"Bits"},
		api.KindText:  {"Text"},
		api.KindBytes: {"Bytes"},
		api.KindLink:  {"Link"},
		api.KindList:  {"Items"},
		api.KindMap:   {"Keys", "Items"},
	}[kind] {
		if name == field {
			return true
		}
	}
	return false
}

// filled tells the names of a value's fields that are not zero, Kind left out.
func filled(v api.Value) []string {
	var names []string
	for _, f := range []struct {
		name string
		full bool
	}{
		{"Flag", v.Flag}, {"Neg", v.Neg}, {"N", v.N != 0}, {"Bits", v.Bits != 0}, {"Text", v.Text != ""},
		{"Bytes", len(v.Bytes) > 0}, {"Link", v.Link != api.Link{}}, {"Keys", len(v.Keys) > 0}, {"Items", len(v.Items) > 0},
	} {
		if f.full {
			names = append(names, f.name)
		}
	}
	return names
}

// good tells whether a text is good UTF-8, by its code points written again.
func good(text string) bool {
	var again []byte
	for _, r := range text {
		again = utf8.AppendRune(again, r)
	}
	return string(again) == text
}

// mayBe tells whether a link is one of DOC.md's table.
func mayBe(l api.Link) bool {
	sha := l.Hash == api.HashSha && len(l.Digest) == 32
	switch l.Version {
	case 0:
		return sha && l.Codec == api.CodecOld
	case 1:
		return l.Codec < 1<<63 && (sha || l.Hash == api.HashNone && len(l.Digest) <= api.MaxInline)
	}
	return false
}

// rows tells which of P6.1's rows apply to a value by itself, the first one first.
func rows(p part) []api.Errno {
	var list []api.Errno
	v := p.v
	add := func(e api.Errno, applies bool) {
		if applies {
			list = append(list, e)
		}
	}
	isMap := v.Kind == api.KindMap
	add(api.ErrValueDeep, (isMap || v.Kind == api.KindList) && p.about >= api.MaxDepth)
	unused := v.Kind < api.KindNull || v.Kind > api.KindMap
	for _, name := range filled(v) {
		unused = unused || !uses(v.Kind, name)
	}
	add(api.ErrValueKind, unused)
	x := math.Float64frombits(v.Bits)
	add(api.ErrValueFloat, v.Kind == api.KindFloat && (math.IsNaN(x) || math.IsInf(x, 0)))
	badText := v.Kind == api.KindText && !good(v.Text)
	for _, key := range v.Keys {
		badText = badText || isMap && !good(key)
	}
	add(api.ErrValueText, badText)
	add(api.ErrValueLink, v.Kind == api.KindLink && !mayBe(v.Link))
	seen := map[string]int{}
	for _, key := range v.Keys {
		seen[key]++
	}
	add(api.ErrValueKeys, isMap && (len(v.Keys) != len(v.Items) || len(seen) != len(v.Keys)))
	return list
}

// judged tells what P6.1 says of a value.
func judged(v api.Value) api.Errno {
	for _, p := range parts(v, 0, api.MaxDepth) {
		if list := rows(p); len(list) > 0 {
			return list[0]
		}
	}
	return api.OK
}

// ahead tells whether the one key stands ahead of the other.
func ahead(a, b string) bool {
	return len(a) < len(b) || len(a) == len(b) && bytes.Compare([]byte(a), []byte(b)) < 0
}

// ranks tells the places of a map's entries in keys' order: each is moved ahead until it stands right.
func ranks(keys []string) []int {
	var places []int
	for i := range keys {
		places = append(places, i)
		for j := i; j > 0 && ahead(keys[places[j]], keys[places[j-1]]); j-- {
			places[j], places[j-1] = places[j-1], places[j]
		}
	}
	return places
}

// written tells a tree as a text that two trees share just if they are equal, field by field and sorted.
func written(v api.Value) string {
	s := "<" + strconv.Itoa(v.Kind) + " "
	switch v.Kind {
	case api.KindBool:
		s += strconv.FormatBool(v.Flag)
	case api.KindInt:
		s += strconv.FormatBool(v.Neg) + strconv.FormatUint(v.N, 10)
	case api.KindFloat:
		s += strconv.FormatUint(v.Bits, 16)
	case api.KindText:
		s += strconv.Quote(v.Text)
	case api.KindBytes:
		s += strconv.Quote(string(v.Bytes))
	case api.KindLink:
		s += strconv.Itoa(v.Link.Version) + " " + strconv.FormatUint(v.Link.Codec, 10) + " " + strconv.FormatUint(v.Link.Hash, 10) + " " + strconv.Quote(v.Link.Digest)
	case api.KindList:
		for _, item := range v.Items {
			s += written(item)
		}
	case api.KindMap:
		for _, at := range ranks(v.Keys) {
			s += strconv.Quote(v.Keys[at]) + written(v.Items[at])
		}
	}
	return s + ">"
}

// deepest tells a tree's depth: how many lists and maps stand about one another.
func deepest(v api.Value) int {
	most := 0
	for _, p := range parts(v, 0, math.MaxInt) {
		if p.v.Kind == api.KindList || p.v.Kind == api.KindMap {
			most = max(most, p.about+1)
		}
	}
	return most
}

// linked tells a tree's links, by the parts of the tree that is sorted.
func linked(v api.Value) []api.Link {
	var list []api.Link
	for _, p := range parts(sortedAgain(v), 0, math.MaxInt) {
		if p.v.Kind == api.KindLink {
			list = append(list, p.v.Link)
		}
	}
	return list
}

// sortedAgain tells a tree with each map's entries in keys' order.
func sortedAgain(v api.Value) api.Value {
	s := v
	s.Keys, s.Items = nil, nil
	if v.Kind == api.KindList {
		for _, item := range v.Items {
			s.Items = append(s.Items, sortedAgain(item))
		}
	}
	if v.Kind == api.KindMap {
		for _, at := range ranks(v.Keys) {
			s.Keys = append(s.Keys, v.Keys[at])
			s.Items = append(s.Items, sortedAgain(v.Items[at]))
		}
	}
	return s
}
