package loose

import (
	"bytes"
	"math"
	"reflect"
	"runtime"
	"runtime/debug"
	"slices"
	"strconv"
	"strings"
	"testing"

	"trellis/api"
	"trellis/lay"
	"trellis/read"
	"trellis/sample"
	"trellis/value"
)

// fault tells a fault.
func fault(code api.Errno, at int) api.Fault { return api.Fault{Code: code, At: at} }

// same tells whether two values are the same as they stand, nil and empty lists being one.
func same(a, b api.Value) bool { return reflect.DeepEqual(sample.Again(a), sample.Again(b)) }

// formOf tells the form of a tree.
func formOf(t *testing.T, v api.Value) []byte {
	t.Helper()
	b, e := lay.Encode(v)
	if e != api.OK {
		t.Fatalf("no form: %d", e)
	}
	return b
}

// expect fails if Parse and Normal do not tell this tree and these notes, or this fault and nothing beside it; or if P9.4 does not hold of the bytes.
func expect(t *testing.T, b []byte, depth int, v api.Value, notes []api.Note, f api.Fault) {
	t.Helper()
	w, list, g := Parse(b, depth)
	if g != f || !same(v, w) || !slices.Equal(notes, list) {
		t.Fatalf("P9.2: Parse(%x, %d): %+v, %v, %+v; not %+v, %v, %+v", b, depth, w, list, g, v, notes, f)
	}
	form, g := Normal(b, depth)
	if g != f || f != (api.Fault{}) && len(form) > 0 {
		t.Fatalf("P9.3: Normal(%x, %d): %x, %+v; not %+v", b, depth, form, g, f)
	}
	strict, g := read.Decode(b, depth)
	if (g == api.Fault{}) != (f == api.Fault{} && len(notes) == 0) || g == (api.Fault{}) && !same(strict, w) {
		t.Fatalf("P9.4: %x, %d: %+v, %+v; read.Decode: %+v, %+v", b, depth, w, f, strict, g)
	}
	if f != (api.Fault{}) {
		return
	}
	if !bytes.Equal(form, formOf(t, v)) {
		t.Fatalf("P9.3: Normal(%x, %d): %x; not %x", b, depth, form, formOf(t, v))
	}
	if again, g := Normal(form, depth); g != f || !bytes.Equal(again, form) {
		t.Fatalf("P9.4: Normal(%x, %d): %x, %+v; it is the form of what %x means", form, depth, again, g, b)
	}
}

// hold fails if the three calls do not tell what the second reading tells.
func hold(t *testing.T, b []byte, depth int) {
	t.Helper()
	if _, f := wholeOf(b, depth); Whole(b, depth) != f {
		t.Fatalf("P9.1: Whole(%x, %d): %+v; not %+v", b, depth, Whole(b, depth), f)
	}
	v, notes, f := parseOf(b, depth)
	expect(t, b, depth, v, notes, f)
}

// refuse fails if bytes are not refused so by Whole, and so by the others.
func refuse(t *testing.T, b string, depth int, f api.Fault) {
	t.Helper()
	if g := Whole([]byte(b), depth); g != f {
		t.Errorf("P9.1: Whole(%x, %d): %+v; not %+v", b, depth, g, f)
	}
	expect(t, []byte(b), depth, api.Value{}, nil, f)
	hold(t, []byte(b), depth)
}

// senseless fails if bytes are not well-formed, or not without a meaning from this place on.
func senseless(t *testing.T, b string, at int) {
	t.Helper()
	if f := Whole([]byte(b), 9); f != (api.Fault{}) {
		t.Errorf("P9.1: Whole(%x): %+v", b, f)
	}
	expect(t, []byte(b), 9, api.Value{}, nil, fault(api.ErrLooseMeaning, at))
	hold(t, []byte(b), 9)
}

// takes fails if bytes do not mean this tree, with notes that are told by their places and numbers, by turns.
func takes(t *testing.T, b string, v api.Value, notes ...int) {
	t.Helper()
	var list []api.Note
	for i := 0; i < len(notes); i += 2 {
		list = append(list, api.Note{At: notes[i], What: notes[i+1]})
	}
	if f := Whole([]byte(b), 9); f != (api.Fault{}) {
		t.Errorf("P9.1: Whole(%x): %+v", b, f)
	}
	expect(t, []byte(b), 9, v, list, api.Fault{})
	hold(t, []byte(b), 9)
}

const (
	long   = api.NoteLong
	noEnd  = api.NoteEndless
	narrow = api.NoteNarrow
	order  = api.NoteOrder
)

// TestExamples: the chapter's tables.
func TestExamples(t *testing.T) {
	one, two := sample.Whole(1), sample.Whole(2)
	takes(t, "\x18\x17", sample.Whole(23), 0, long)
	takes(t, "\x9f\x01\xff", sample.List(one), 0, noEnd)
	takes(t, "\x7faaab\xff", sample.Text("ab"), 0, noEnd)
	takes(t, "\x5f\xff", api.Value{Kind: api.KindBytes}, 0, noEnd)
	takes(t, "\xf9\x3e\x00", sample.Float(math.Float64bits(1.5)), 0, narrow)
	takes(t, "\xfa\x80\x00\x00\x00", sample.Float(1<<63), 0, narrow)
	takes(t, "\xa2ab\x01aa\x02", sample.Map("a b", two, one), 4, order)
	takes(t, "\xa2ab\x01\x78\x01a\x02", sample.Map("a b", two, one), 4, long, 4, order)
	takes(t, "\xd8\x2a\x5f\x41\x00\x46\x01\x55\x00\x02hi\xff", sample.Link("hi"), 2, noEnd)
	for _, c := range []struct {
		b    string
		code api.Errno
		at   int
	}{
		{"", api.ErrLooseShort, 0}, {"\x5f\x41", api.ErrLooseShort, 1}, {"\xbfaa", api.ErrLooseShort, 3},
		{"\x1c", api.ErrLooseForm, 0}, {"\xff", api.ErrLooseForm, 0}, {"\x9f\x1f", api.ErrLooseForm, 1}, {"\x5faa\xff", api.ErrLooseForm, 1},
		{"\x5f\x5f\xff\xff", api.ErrLooseForm, 1}, {"\xbfaa\xff", api.ErrLooseForm, 3}, {"\xf8\x10", api.ErrLooseForm, 0},
		{"\x81\xff", api.ErrLooseForm, 1}, {"\xc1\xff", api.ErrLooseForm, 1}, {"\x01\xff", api.ErrLooseLeft, 1}, {"\x82\xf7\x1c", api.ErrLooseForm, 2},
	} {
		refuse(t, c.b, 9, fault(c.code, c.at))
	}
	refuse(t, "\x81\x81\x01", 1, fault(api.ErrLooseDeep, 1))
	for _, b := range []string{"\xf7", "\xc1\x00", "\xf9\x7e\x00", "\x61\xff", "\xd8\x2a\x40"} {
		senseless(t, b, 0)
	}
	senseless(t, "\x82\x01\xf8\x20", 2)
	senseless(t, "\x7faaa\xff\xff", 3)
	senseless(t, "\xa1\x01\x02", 1)
	senseless(t, "\xa2aa\x01\x7faa\xff\x02", 4)
}

// TestRows: P9.1: of each place the table's first row that applies, whatever the rows below say; of all places the first.
func TestRows(t *testing.T) {
	most, half := strings.Repeat("\xff", 8), "\x80"+strings.Repeat("\x00", 7)
	for _, c := range []struct {
		b     string
		depth int
		code  api.Errno
		at    int
	}{
		// a depth that is none, ahead of all
		{"", -1, api.ErrLooseDepth, 0}, {"\x01", 1025, api.ErrLooseDepth, 0}, {"\x80\xff", -1 << 63, api.ErrLooseDepth, 0}, {"\x81\x1c", 1<<63 - 1, api.ErrLooseDepth, 0},
		// too deep, ahead of a head that is not whole or none
		{"\x80", 0, api.ErrLooseDeep, 0}, {"\x9f", 0, api.ErrLooseDeep, 0}, {"\x98", 0, api.ErrLooseDeep, 0}, {"\xbb\x01", 0, api.ErrLooseDeep, 0}, {"\x9c", 0, api.ErrLooseDeep, 0},
		{"\xbe", 0, api.ErrLooseDeep, 0}, {"\x81\x9e", 1, api.ErrLooseDeep, 1}, {"\x9f\x80\xff", 1, api.ErrLooseDeep, 1}, {"\xbfaa\xa0\xff", 1, api.ErrLooseDeep, 3},
		// keys, items of tags, pieces
		{"\xa1\x80\x01", 1, api.ErrLooseDeep, 1}, {"\xbf\xbf\xff\x01\xff", 1, api.ErrLooseDeep, 1}, {"\xc1\x80", 0, api.ErrLooseDeep, 1}, {"\xc1\xd8\x2a\xa0", 0, api.ErrLooseDeep, 3},
		{"\x81\xc1\x80", 1, api.ErrLooseDeep, 2}, {"\x5f\x80", 0, api.ErrLooseDeep, 1}, {"\x5f\x80", 1, api.ErrLooseForm, 1}, {"\x81\x7f\x9c", 1, api.ErrLooseDeep, 2}, {"\x7f\xbb", 1, api.ErrLooseShort, 1},
		// what has been read to its end is open no more
		{"\x82\x80\x81\x80", 2, api.ErrLooseDeep, 3}, {"\x9f\x9f\xff\x81\x80\xff", 2, api.ErrLooseDeep, 4}, {"\x82\x81\x80\x01\xff", 3, api.ErrLooseLeft, 4},
		// not whole, ahead of what is not well-formed
		{"\x19\x01", 9, api.ErrLooseShort, 0}, {"\x62a", 9, api.ErrLooseShort, 0}, {"\x78", 9, api.ErrLooseShort, 0}, {"\xf8", 9, api.ErrLooseShort, 0}, {"\xf9\x3c", 9, api.ErrLooseShort, 0},
		{"\x5f\x61", 9, api.ErrLooseShort, 1}, {"\x5f\x62a", 9, api.ErrLooseShort, 1}, {"\x5f\x18", 9, api.ErrLooseShort, 1}, {"\x7f\x42\xff", 9, api.ErrLooseShort, 1}, {"\x7f\xf8", 9, api.ErrLooseShort, 1},
		{"\x81", 9, api.ErrLooseShort, 1}, {"\xa1aa", 9, api.ErrLooseShort, 3}, {"\xa1", 9, api.ErrLooseShort, 1}, {"\xc1", 9, api.ErrLooseShort, 1}, {"\xd9\x00", 9, api.ErrLooseShort, 0},
		{"\x9f", 9, api.ErrLooseShort, 1}, {"\xbf", 9, api.ErrLooseShort, 1}, {"\x5f", 9, api.ErrLooseShort, 1}, {"\x7f\x60", 9, api.ErrLooseShort, 2}, {"\x9f\x9f\xff", 9, api.ErrLooseShort, 3},
		// arguments with few bytes behind them
		{"\x9b" + most, 9, api.ErrLooseShort, 9}, {"\x9b" + half + "\x01", 9, api.ErrLooseShort, 10}, {"\xbb" + most + "aa\x01", 9, api.ErrLooseShort, 12},
		{"\xbb" + half, 9, api.ErrLooseShort, 9}, {"\xbb" + half + "aa", 9, api.ErrLooseShort, 11}, {"\xbb" + half + "\xff", 9, api.ErrLooseForm, 9}, {"\xbb\x80" + most[1:7] + "\x01aa\x00", 9, api.ErrLooseShort, 12},
		{"\x5b" + most + "a", 9, api.ErrLooseShort, 0}, {"\x7b" + half + "a", 9, api.ErrLooseShort, 0}, {"\x5f\x5b" + half + "\xff", 9, api.ErrLooseShort, 1}, {"\x7f\x7b" + most + "\xff", 9, api.ErrLooseShort, 1},
		{"\x5b\x7f" + most[1:], 9, api.ErrLooseShort, 0}, {"\x7b" + most[:7] + "\xf8" + "aaaaaaaa", 9, api.ErrLooseShort, 0}, {"\xdb" + most, 9, api.ErrLooseShort, 9},
		// heads that are none
		{"\x1f", 9, api.ErrLooseForm, 0}, {"\x3f", 9, api.ErrLooseForm, 0}, {"\xdf", 9, api.ErrLooseForm, 0}, {"\x5c", 9, api.ErrLooseForm, 0}, {"\x9d", 9, api.ErrLooseForm, 0}, {"\xfe", 9, api.ErrLooseForm, 0},
		{"\xf8\x1f", 9, api.ErrLooseForm, 0}, {"\xf8\x00", 9, api.ErrLooseForm, 0}, {"\x7f\x1c", 9, api.ErrLooseForm, 1}, {"\xc1\x1f", 9, api.ErrLooseForm, 1},
		// breaks where none may stand
		{"\x82\x01\xff", 9, api.ErrLooseForm, 2}, {"\xa1\xff", 9, api.ErrLooseForm, 1}, {"\xa1aa\xff", 9, api.ErrLooseForm, 3}, {"\x9f\xc1\xff\xff", 9, api.ErrLooseForm, 2},
		{"\xbf\xc1\xff\xff", 9, api.ErrLooseForm, 2}, {"\xbfaa\x01ab\xff\xff", 9, api.ErrLooseForm, 6}, {"\xbf\xbf\xff\xff", 9, api.ErrLooseForm, 3}, {"\x9f\x81\xff\xff", 9, api.ErrLooseForm, 2},
		{"\x81\x9f\xff\xff", 9, api.ErrLooseLeft, 3}, {"\x5f\xff\xff", 9, api.ErrLooseLeft, 2}, {"\xd8\x2a\xff", 9, api.ErrLooseForm, 2},
		// pieces of another major, and endless ones
		{"\x7faa\x41a\xff", 9, api.ErrLooseForm, 3}, {"\x5f\x01\xff", 9, api.ErrLooseForm, 1}, {"\x5f\xf6\xff", 9, api.ErrLooseForm, 1}, {"\x7f\x7f\xff\xff", 9, api.ErrLooseForm, 1},
		{"\x5f\xc1\x40\xff", 9, api.ErrLooseForm, 1}, {"\x7f\xa0\xff", 9, api.ErrLooseForm, 1}, {"\x5f\x7f\xff\xff", 9, api.ErrLooseForm, 1}, {"\x5f\x9f\xff\xff", 9, api.ErrLooseForm, 1},
		{"\xa1\x7f\x41a\xff\x01", 9, api.ErrLooseForm, 2}, {"\xd8\x2a\x5faa\xff", 9, api.ErrLooseForm, 3}, {"\x7f\x18\x61\xff", 9, api.ErrLooseForm, 1},
		// what is left, ahead of any meaning; what is not well-formed, ahead of it too
		{"\xf7\x00", 9, api.ErrLooseLeft, 1}, {"\x80\x80", 1, api.ErrLooseLeft, 1}, {"\x9f\xff\x1c", 9, api.ErrLooseLeft, 2}, {"\x61\xff\xff", 0, api.ErrLooseLeft, 2},
		{"\xa2aa\x01aa\xff", 9, api.ErrLooseForm, 6}, {"\x82\xd8\x2a\x40", 9, api.ErrLooseShort, 4}, {"\x82\x61\xff\x81\x01", 1, api.ErrLooseDeep, 3},
	} {
		refuse(t, c.b, c.depth, fault(c.code, c.at))
	}
}

// TestSenseless: P9.2: each thing without a meaning at its place, and of several the least.
func TestSenseless(t *testing.T) {
	for _, c := range []struct {
		b  string
		at int
	}{
		// simple values and floats
		{"\xe0", 0}, {"\xf3", 0}, {"\xf8\xff", 0}, {"\xfa\x7f\x80\x00\x00", 0}, {"\xfa\xff\xc0\x00\x00", 0}, {"\xfa\x7f\x80\x00\x01", 0},
		{"\xfb\x7f\xf0\x00\x00\x00\x00\x00\x00", 0}, {"\xfb\xff\xf0\x00\x00\x00\x00\x00\x01", 0}, {"\xf9\x7c\x00", 0}, {"\xf9\xfc\x00", 0}, {"\xf9\x7c\x01", 0}, {"\x82\x01\xf9\x7c\x00", 2},
		// tags
		{"\xd8\x2b\x47\x00\x01\x55\x00\x02hi", 0}, {"\xdb\xff\xff\xff\xff\xff\xff\xff\xff\x00", 0}, {"\xc0\x60", 0}, {"\x82\x01\xd9\xd9\xf7\x80", 2}, {"\xc1\xd8\x2a\x47\x00\x01\x55\x00\x02hi", 0},
		{"\xd8\x2a\xd8\x2a\x47\x00\x01\x55\x00\x02hi", 0}, {"\x81\xd8\x2a\xf7", 1}, {"\x81\xd8\x2a\x81\xf7", 1}, {"\xd8\x2a\xf6", 0}, {"\xd8\x2a\x67\x00\x01\x55\x00\x02hi", 0},
		{"\xd8\x2a\x41\x00", 0}, {"\xd8\x2a\x46\x01\x55\x00\x02hi", 0}, {"\xd8\x2a\x47\x01\x01\x55\x00\x02hi", 0}, {"\xd8\x2a\x48\x00\x01\x55\x00\x02hix", 0}, {"\xd8\x2a\x46\x00\x01\x55\x00\x02h", 0},
		{"\xd8\x2a\x47\x00\x02\x55\x00\x02hi", 0}, {"\xd8\x2a\x47\x00\x01\x55\x01\x02hi", 0}, {"\xd8\x2a\x48\x00\x01\xd5\x00\x00\x02hi", 0}, {"\xd8\x2a\x5f\xff", 0}, {"\xd8\x2a\x5f\x40\x41\x00\xff", 0},
		{"\x81\xd9\x00\x2a\x5f\x41\x00\x46\x01\x55\x00\x02hx\x41x\xff", 1}, {"\xd8\x2a\x80", 0}, {"\xd8\x2a\xa1\x01\x02", 0}, {"\xd8\x2a\x7f\x61\xff\xff", 0},
		// texts, whole and in pieces that are good together
		{"\x81\x62\xc3\x28", 1}, {"\x63\xed\xa0\x80", 0}, {"\x62\xc0\x80", 0}, {"\x64\xf4\x90\x80\x80", 0}, {"\x78\x01\xff", 0}, {"\x7f\x61\xc3\x61\xa4\xff", 1}, {"\x7f\x62\xc3\xa4\x61\xc3\x61\xa4\xff", 4},
		{"\x7f\x60\x78\x01\xff\x61\xff\xff", 2}, {"\x82\x7faa\x61\xff\xff\xf7", 4},
		// keys
		{"\xa1\x41a\x01", 1}, {"\xa1\xf6\x01", 1}, {"\xa1\xf7\x01", 1}, {"\xa1\xc1aa\x01", 1}, {"\xa1\x81\xf7\x01", 1}, {"\xa1\xa1\x01\x02\xf7", 1}, {"\xbf\x5f\xff\x01\xff", 1}, {"\xa2aa\x01\x80\x01", 4},
		{"\xa1\xd8\x2a\x47\x00\x01\x55\x00\x02hi\x01", 1}, {"\xa1\x61\xff\x01", 1}, {"\xa1\x7f\x61\xff\xff\x01", 2}, {"\xa1\x7faa\x61\xff\xff\xf7", 4}, {"\xa1aa\xf7", 3},
		// keys that stand twice, next to each other or not, written alike or not
		{"\xa2aa\x01aa\xf7", 4}, {"\xa2aa\xf7aa\x01", 3}, {"\xa3aa\x01ab\x02aa\x03", 7}, {"\xa3ab\x01aa\x02ab\x03", 7}, {"\xa2\x60\x01\x7f\xff\x02", 3}, {"\xa2aa\x01\x78\x01a\x02", 4},
		{"\xbf\x7faaab\xff\x01bab\x02\xff", 8}, {"\xa2bab\x01\x7faa\x60ab\xff\x02", 5}, {"\xa4aa\x01ab\x02aa\x03ab\x04", 7}, {"\xa2aa\xa2ab\x01ab\x02aa\x03", 7}, {"\xa2aa\xa1aa\x01aa\x02", 7},
		{"\xa2b\xc3\xa4\x01\x7f\x61\xc3\x61\xa4\xff\x02", 5},
		// the least of several
		{"\x83\xf7\x61\xff\xc1\x00", 1}, {"\x83\x61\xff\xf7\xc1\x00", 1}, {"\x82\x82\x01\xf7\xf7", 3}, {"\xa2aa\x82\x01\xf7aa\x02", 5}, {"\xa2aa\x01\x01\xf7", 4},
	} {
		senseless(t, c.b, c.at)
	}
}

// TestNotes: P9.2: what is noted, where, and in which order; and what is not.
func TestNotes(t *testing.T) {
	one, two, three := sample.Whole(1), sample.Whole(2), sample.Whole(3)
	link := sample.Link("hi")
	takes(t, "\x1b\x00\x00\x00\x00\xff\xff\xff\xff", sample.Whole(1<<32-1), 0, long)
	takes(t, "\x3a\x00\x00\x00\x00", api.Value{Kind: api.KindInt, Neg: true}, 0, long)
	takes(t, "\x1b\xff\xff\xff\xff\xff\xff\xff\xff", sample.Whole(1<<64-1))
	takes(t, "\x3b\xff\xff\xff\xff\xff\xff\xff\xff", api.Value{Kind: api.KindInt, Neg: true, N: 1<<64 - 1})
	takes(t, "\x82\x98\x00\xb9\x00\x00", sample.List(sample.List(), sample.Map("")), 1, long, 3, long)
	takes(t, "\x98\x02\x9f\xff\xbf\xff", sample.List(sample.List(), sample.Map("")), 0, long, 2, noEnd, 4, noEnd)
	takes(t, "\x7f\x60\x78\x01a\x60\xff", sample.Text("a"), 0, noEnd, 2, long)
	takes(t, "\x5f\x40\x41a\x59\x00\x01b\xff", api.Value{Kind: api.KindBytes, Bytes: []byte("ab")}, 0, noEnd, 4, long)
	takes(t, "\x7f\xff", sample.Text(""), 0, noEnd)
	takes(t, "\x58\x01a", api.Value{Kind: api.KindBytes, Bytes: []byte("a")}, 0, long)
	takes(t, "\x78\x00", sample.Text(""), 0, long)
	takes(t, "\xd9\x00\x2a\x58\x07\x00\x01\x55\x00\x02hi", link, 0, long, 3, long)
	takes(t, "\xdb\x00\x00\x00\x00\x00\x00\x00\x2a\x5f\x40\x58\x01\x00\x46\x01\x55\x00\x02hi\xff", link, 0, long, 9, noEnd, 11, long)
	takes(t, "\xd8\x2a\x47\x00\x01\x55\x00\x02hi", link)
	takes(t, "\x9f\x9f\xff\x9f\x01\xff\xff", sample.List(sample.List(), sample.List(one)), 0, noEnd, 1, noEnd, 3, noEnd)
	takes(t, "\x83\xf4\xf5\xf6", sample.List(api.Value{Kind: api.KindBool}, api.Value{Kind: api.KindBool, Flag: true}, sample.Null()))
	takes(t, "\x83\xfa\x3f\xc0\x00\x00\xf9\x00\x01\xfb\x3f\xf8\x00\x00\x00\x00\x00\x00", sample.List(sample.Float(math.Float64bits(1.5)), sample.Float(math.Float64bits(math.Ldexp(1, -24))), sample.Float(math.Float64bits(1.5))), 1, narrow, 6, narrow)
	// keys: each against the one right ahead of it, in keys' order
	takes(t, "\xa3ac\x01aa\x02ab\x03", sample.Map("a b c", two, three, one), 4, order)
	takes(t, "\xa3ac\x01ab\x02aa\x03", sample.Map("a b c", three, two, one), 4, order, 7, order)
	takes(t, "\xa2baa\x01ab\x02", sample.Map("b aa", two, one), 5, order)
	takes(t, "\xa2ab\x01baa\x02", sample.Map("b aa", one, two))
	takes(t, "\xa2aa\x01\x60\x02", api.Value{Kind: api.KindMap, Keys: []string{"", "a"}, Items: []api.Value{two, one}}, 4, order)
	takes(t, "\xbfab\xa2ab\x01aa\x02aa\x03\xff", sample.Map("a b", three, sample.Map("a b", two, one)), 0, noEnd, 7, order, 10, order)
	takes(t, "\xa2aa\xa1az\x01ab\x02", sample.Map("a b", sample.Map("z", one), two))
	// a key that does not rise, ahead of what is noted of its pieces
	takes(t, "\xa2ab\x01\x7f\x78\x01a\xff\x02", sample.Map("a b", two, one), 4, noEnd, 4, order, 5, long)
	takes(t, "\xa2ac\x01\x7f\x78\x01a\x60\x79\x00\x00\xff\x18\x02", sample.Map("a c", two, one), 4, noEnd, 4, order, 5, long, 9, long, 13, long)
	takes(t, "\xa3ac\x01\x78\x01b\xf9\x00\x00\x79\x00\x01a\x03", sample.Map("a b c", three, sample.Float(0), one), 4, long, 4, order, 7, narrow, 10, long, 10, order)
	takes(t, "\xa2aa\x01\x7f\x78\x01b\xff\x02", sample.Map("a b", one, two), 4, noEnd, 5, long)
}

// TestShortRows: all rows of few bytes, by themselves and within others.
func TestShortRows(t *testing.T) {
	about := []string{"", "\x81", "\xa1", "\x9f", "\xbf", "\xbfaa", "\x5f", "\x7f", "\xc1", "\xd8\x2a", "\xa2ab\x01"}
	for i := range 1 << 16 {
		b := []byte{byte(i >> 8), byte(i)}
		if i < 1<<8 {
			for depth := range 3 {
				hold(t, b[1:], depth)
			}
		}
		for j, ahead := range about {
			hold(t, append([]byte(ahead), b...), (i+j)%3)
		}
	}
	some := []byte("\x00\x18\x41\x5f\x60a\x78\x7f\x80\x82\x9f\xa1\xa2\xbf\xc1\xd8\x2a\xf6\xff")
	var rows func(b []byte)
	rows = func(b []byte) {
		hold(t, b, 2)
		if len(b) == 4 {
			return
		}
		for _, c := range some {
			rows(append(b, c))
		}
	}
	rows(make([]byte, 0, 4))
}

// TestEndless: endless strings, lists and maps in one another, and breaks: all rows of these few bytes.
func TestEndless(t *testing.T) {
	some := []byte("\x5f\x7f\x9f\xbf\x40\x60\xff")
	met := 0
	var rows func(b []byte)
	rows = func(b []byte) {
		hold(t, b, 3)
		if _, _, f := Parse(b, 3); f == (api.Fault{}) {
			met++
		}
		if len(b) == 6 {
			return
		}
		for _, c := range some {
			rows(append(b, c))
		}
	}
	rows(make([]byte, 0, 6))
	if met < 30 {
		t.Errorf("%d rows alone have a meaning", met)
	}
}

// TestTrees: P9.2 to P9.4: trees that are laid in some way mean themselves, and just what was done is noted; from their own depth on.
func TestTrees(t *testing.T) {
	d := sample.Dice(90)
	bare, met := 0, map[int]int{}
	for range 2500 {
		v := d.Mixed(d.Tree(4))
		b, notes := loosely(&d, v)
		own := value.Depth(v)
		for depth := range own + 2 {
			if depth < own {
				if f := Whole(b, depth); f.Code != api.ErrLooseDeep {
					t.Fatalf("P9.1: Whole(%x, %d): %+v", b, depth, f)
				}
				hold(t, b, depth)
				continue
			}
			expect(t, b, depth, value.Sorted(v), notes, api.Fault{})
		}
		expect(t, b, 1024, value.Sorted(v), notes, api.Fault{})
		hold(t, b, own)
		if len(notes) == 0 {
			bare++
		}
		for _, n := range notes {
			met[n.What]++
		}
		form := formOf(t, v)
		expect(t, form, own, value.Sorted(v), nil, api.Fault{})
	}
	if bare < 100 || met[long] < 100 || met[noEnd] < 100 || met[narrow] < 100 || met[order] < 100 {
		t.Errorf("%d without notes, %v", bare, met)
	}
}

// altered tells a row of bytes with one thing in it made another.
func altered(d *sample.Dice, b []byte) []byte {
	b = slices.Clone(b)
	at := d.Below(len(b))
	switch d.Below(7) {
	case 0:
		b[at] ^= 1 << d.Below(8)
	case 1:
		b[at] = byte(d.Next())
	case 2:
		b = slices.Insert(b, at, byte(d.Next()))
	case 3:
		b = slices.Delete(b, at, at+1)
	case 4:
		b[at] |= 24 + byte(d.Below(8))
	case 5:
		b = slices.Insert(b, at, 0xff)
	default:
		to := d.Below(len(b))
		b[at], b[to] = b[to], b[at]
	}
	return b
}

// TestOdd: P9.1 to P9.4: what is well-formed, with a meaning or without; and what is nearly so.
func TestOdd(t *testing.T) {
	d := sample.Dice(91)
	codes := map[api.Errno]int{}
	for range 8000 {
		b := oddly(&d, d.Mixed(d.Tree(4)))
		if f := Whole(b, 1024); f != (api.Fault{}) {
			t.Fatalf("P9.1: Whole(%x): %+v", b, f)
		}
		hold(t, b, 1024)
		_, _, f := Parse(b, 1024)
		codes[f.Code]++
		for range 3 {
			b = altered(&d, b)
			if len(b) == 0 {
				break
			}
			depth := d.Below(6)
			hold(t, b, depth)
			_, _, f := Parse(b, depth)
			codes[f.Code]++
		}
	}
	for _, code := range []api.Errno{api.OK, api.ErrLooseDeep, api.ErrLooseShort, api.ErrLooseForm, api.ErrLooseLeft, api.ErrLooseMeaning} {
		if codes[code] < 100 {
			t.Errorf("%d was told %d times alone", code, codes[code])
		}
	}
}

// TestBeginnings: P9.1, P9.4: what is well-formed cut anywhere is too short; with bytes behind it, these are left.
func TestBeginnings(t *testing.T) {
	d := sample.Dice(92)
	for i := range 500 {
		v := d.Mixed(d.Tree(3))
		b, _ := loosely(&d, v)
		if i%2 == 0 {
			b = oddly(&d, v)
		}
		for n := range b {
			for _, f := range []api.Fault{Whole(b[:n], 1024), firstFault(Parse(b[:n], 1024)), normalFault(Normal(b[:n], 1024))} {
				if f.Code != api.ErrLooseShort {
					t.Fatalf("P9.4: the first %d bytes of %x: %+v", n, b, f)
				}
			}
			hold(t, b[:n], 1024)
		}
		for _, behind := range []string{"\x00", "\xff", "\x1c", "\x81", string(b)} {
			refuse(t, string(b)+behind, 1024, fault(api.ErrLooseLeft, len(b)))
		}
	}
}

func firstFault(_ api.Value, _ []api.Note, f api.Fault) api.Fault { return f }

func normalFault(_ []byte, f api.Fault) api.Fault { return f }

// TestDepths: P9.1: each depth from 0 to its own, and 1024 lists and maps in one another, of known length and endless.
func TestDepths(t *testing.T) {
	for _, c := range []struct{ ahead, behind string }{
		{"\x81", ""}, {"\x9f", "\xff"}, {"\xa1\x60", ""}, {"\xbf\x60", "\xff"}, {"\x98\x01", ""}, {"\xc1\x81", ""}, {"\xa1\x80", ""}, {"\x82\x80", ""}, {"\x9f\x5f\xff", "\xff"},
	} {
		for _, n := range []int{1, 2, 3, 7, 1023} {
			b := strings.Repeat(c.ahead, n) + "\x80" + strings.Repeat(c.behind, n)
			if n < 1023 {
				for depth := range n + 3 {
					hold(t, []byte(b), depth)
				}
			}
			last := n * len(c.ahead)
			if strings.HasSuffix(c.ahead, "\x80") {
				last -= 1 // the key or item ahead of the innermost one is as deep
			}
			if f := Whole([]byte(b), n); f != fault(api.ErrLooseDeep, last) {
				t.Errorf("P9.1: %d of %x, depth %d: %+v", n, c.ahead, n, f)
			}
			if f := Whole([]byte(b), n+1); f != (api.Fault{}) {
				t.Errorf("P9.1: %d of %x, depth %d: %+v", n, c.ahead, n+1, f)
			}
		}
		b := []byte(strings.Repeat(c.ahead, 1024) + "\x80" + strings.Repeat(c.behind, 1024))
		if f := Whole(b, 1024); f.Code != api.ErrLooseDeep {
			t.Errorf("P9.1: 1025 of %x: %+v", c.ahead, f)
		}
		b = []byte(strings.Repeat(c.ahead, 1<<17))
		if f := Whole(b, 1024); f.Code != api.ErrLooseDeep || f.At > 1024*len(c.ahead)+1 {
			t.Errorf("P9.1: %x again and again: %+v", c.ahead, f)
		}
	}
	for _, how := range []string{"l", "m", "lm"} {
		v := sample.Within(sample.List(), 1023, how)
		form := formOf(t, v)
		expect(t, form, 1024, v, nil, api.Fault{})
		for n := 0; n < len(form); n += 7 {
			if f := Whole(form[:n], 1024); f.Code != api.ErrLooseShort {
				t.Fatalf("P9.4: %s, the first %d bytes: %+v", how, n, f)
			}
		}
	}
	b := []byte(strings.Repeat("\x9f", 1024) + strings.Repeat("\xff", 1024))
	var notes []api.Note
	for i := range 1024 {
		notes = append(notes, api.Note{At: i, What: noEnd})
	}
	expect(t, b, 1024, sample.Within(sample.List(), 1023, "l"), notes, api.Fault{})
}

// TestFloats: P9.2: all floats of 16 bits, those of 32 and 64 about the edges of their exponents and fractions.
func TestFloats(t *testing.T) {
	for h := range 1 << 16 {
		hold(t, []byte{0xf9, byte(h >> 8), byte(h)}, 0)
	}
	d := sample.Dice(93)
	for exponent := range uint32(1 << 8) {
		for _, fraction := range []uint32{0, 1, 1 << 22, 1<<23 - 1, uint32(d.Next()) & (1<<23 - 1)} {
			for sign := range uint32(2) {
				n := sign<<31 | exponent<<23 | fraction
				b := []byte{0xfa, byte(n >> 24), byte(n >> 16), byte(n >> 8), byte(n)}
				if exponent == 255 {
					senseless(t, string(b), 0)
					continue
				}
				takes(t, string(b), sample.Float(math.Float64bits(float64(math.Float32frombits(n)))), 0, narrow)
			}
		}
	}
	for exponent := range uint64(1 << 11) {
		for _, fraction := range []uint64{0, 1, 1<<52 - 1, d.Next() >> 12} {
			n := d.Next()&(1<<63) | exponent<<52 | fraction
			b := []byte{0xfb}
			for i := 7; i >= 0; i-- {
				b = append(b, byte(n>>(8*i)))
			}
			if exponent == 1<<11-1 {
				senseless(t, string(b), 0)
				continue
			}
			takes(t, string(b), sample.Float(n))
		}
	}
}

// TestSimple: P9.2: each first byte of MajorOther and of MajorTag with each byte behind it.
func TestSimple(t *testing.T) {
	for first := 0xc0; first < 0x100; first++ {
		for n := range 256 {
			hold(t, []byte{byte(first), byte(n)}, 0)
			hold(t, []byte{byte(first), byte(n), 0x47, 0, 1, 0x55, 0, 2, 'h', 'i'}, 0)
			hold(t, []byte{byte(first), 0, byte(n), 0x47, 0, 1, 0x55, 0, 2, 'h', 'i'}, 0)
		}
	}
}

// TestKeys: P9.2: keys in any order, twice, whole and in pieces, in maps of known length and endless ones.
func TestKeys(t *testing.T) {
	keys := []string{"\x60", "aa", "\x7f\x61a\xff", "\x78\x01b", "\x7f\x60\x78\x01b\x60\xff", "baa", "\x7faaaa\xff", "b\xc3\xa4", "\x7f\x61\xc3\x61\xa4\xff", "\x01"}
	for i := range 10 * 10 * 10 {
		three := []string{keys[i%10], keys[i/10%10], keys[i/100]}
		known, ends := "\xa3", "\xbf"
		for j, k := range three {
			entry := k + "\xa1ax" + strconv.Itoa(j)
			known, ends = known+entry, ends+entry
		}
		hold(t, []byte(known), 2)
		hold(t, []byte(ends+"\xff"), 2)
	}
}

// TestLinks: P9.2: links in pieces, cut anywhere; and names that are not.
func TestLinks(t *testing.T) {
	for _, v := range sample.Leaves() {
		if v.Kind != api.KindLink {
			continue
		}
		form := formOf(t, v)
		at := 3
		if form[2] == 0x58 {
			at = 4
		}
		name := form[at:]
		for cut := range len(name) + 1 {
			b := append([]byte{0xd8, 0x2a, 0x5f, 0x58, byte(cut)}, name[:cut]...)
			b = append(append(b, 0x58, byte(len(name)-cut)), name[cut:]...)
			expect(t, append(b, 0xff), 0, v, parseNotes(append(b, 0xff)), api.Fault{})
			hold(t, append(b, 0xff), 0)
			senseless(t, string(b)+"\x41\x00\xff", 0)
			if cut < len(name) {
				senseless(t, "\xd8\x2a\x5f\x58"+string([]byte{byte(cut)})+string(name[:cut])+"\xff", 0)
			}
		}
	}
}

// parseNotes tells the notes of the second reading.
func parseNotes(b []byte) []api.Note {
	_, notes, _ := parseOf(b, 9)
	return notes
}

// TestHeads: P9.1, P9.2: each head in each length that has room for its argument.
func TestHeads(t *testing.T) {
	for major := range byte(8) {
		for _, n := range []byte{0, 1, 2, 20, 22, 23, 24, 31, 32, 42, 255} {
			for info := range byte(4) {
				b := append([]byte{major<<5 | 24 + info}, make([]byte, 1<<info)...)
				b[len(b)-1] = n
				for _, behind := range []string{"", "\x00", strings.Repeat("a", int(n)), "\x47\x00\x01\x55\x00\x02hi", strings.Repeat("\x80", int(n)), "aa\x00ab\x00"} {
					hold(t, append(slices.Clone(b), behind...), 2)
					hold(t, slices.Concat([]byte{0xd8, 0x2a}, b, []byte(behind)), 2)
					hold(t, slices.Concat([]byte{0xa1}, b, []byte(behind), []byte{0}), 2)
					hold(t, slices.Concat([]byte{0x7f}, b, []byte(behind), []byte{0xff}), 2)
					hold(t, slices.Concat([]byte{0x5f}, b, []byte(behind), []byte{0xff}), 2)
				}
			}
		}
	}
}

// TestWide: many items, entries, pieces and notes.
func TestWide(t *testing.T) {
	const n = 1 << 16
	text, octets, list, entries := []byte{0x7f}, []byte{0x5f}, []byte{0x9f}, []byte{0xbf}
	tree := api.Value{Kind: api.KindMap}
	notes := []api.Note{{At: 0, What: noEnd}}
	for i := range n {
		text, octets, list = append(text, "aa"...), append(octets, "\x41\xff"...), append(list, 0x9f, 0xff)
		key := string([]byte{'z' - byte(i>>12), 'z' - byte(i>>8&15), 'z' - byte(i>>4&15), 'z' - byte(i&15)})
		if i > 0 {
			notes = append(notes, api.Note{At: len(entries), What: order})
		}
		entries = append(append(entries, "d"+key...), 0xf6)
		tree.Keys, tree.Items = append(tree.Keys, key), append(tree.Items, sample.Null())
	}
	text, octets, list, entries = append(text, 0xff), append(octets, 0xff), append(list, 0xff), append(entries, 0xff)
	slices.Reverse(tree.Keys)
	expect(t, entries, 1, tree, notes, api.Fault{})
	expect(t, text, 0, sample.Text(strings.Repeat("a", n)), notes[:1], api.Fault{})
	expect(t, octets, 0, api.Value{Kind: api.KindBytes, Bytes: bytes.Repeat([]byte{0xff}, n)}, notes[:1], api.Fault{})
	v, found, f := Parse(list, 2)
	if f != (api.Fault{}) || len(v.Items) != n || len(found) != n+1 {
		t.Errorf("P9.2: %d items, %d notes, %+v", len(v.Items), len(found), f)
	}
	twice := slices.Concat(entries[:len(entries)-1], entries[1:7], []byte{0xff})
	expect(t, twice, 1, api.Value{}, nil, fault(api.ErrLooseMeaning, len(entries)-1))
}

// taken tells how many bytes of memory a call takes.
func taken(call func()) uint64 {
	var from, to runtime.MemStats
	runtime.ReadMemStats(&from)
	call()
	runtime.ReadMemStats(&to)
	return to.TotalAlloc - from.TotalAlloc
}

// TestTaken: P9.5: arguments that tell of more than there is take nothing.
func TestTaken(t *testing.T) {
	most, half := strings.Repeat("\xff", 8), "\x80"+strings.Repeat("\x00", 7)
	for _, c := range []struct {
		row   string
		times int
	}{
		{"\x9b" + most, 1}, {"\x9b" + half, 1}, {"\xbb" + most, 1}, {"\xbb" + half, 1}, {"\x5b" + most, 1}, {"\x5b" + half, 1}, {"\x7b" + most, 1}, {"\x7b" + half, 1},
		{"\x9a\x0f\xff\xff\xff", 1}, {"\xba\x0f\xff\xff\xff", 1}, {"\x5a\x0f\xff\xff\xff", 1}, {"\x7a\x0f\xff\xff\xff", 1}, {"\xd8\x2a\x5a\x0f\xff\xff\xff", 1}, {"\x5f\x5a\x0f\xff\xff\xff", 1},
		{"\x9b" + most, 1024}, {"\xbb" + most + "\x60", 1024}, {"\x99\x20\x00", 1024}, {"\xb9\x20\x00aa", 1024}, {"\xdb" + most, 5000}, {"\xdb" + half, 5000}, {"\x9f", 1024}, {"\xbf\x60", 1024},
	} {
		for _, behind := range []string{"", "\x01", strings.Repeat("\x00", 5000), strings.Repeat("\x80", 5000)} {
			b := []byte(strings.Repeat(c.row, c.times) + behind)
			for _, call := range []func(){func() { Whole(b, 1024) }, func() { Parse(b, 1024) }, func() { Normal(b, 1024) }} {
				if n := taken(call); n > uint64(1<<14+1200*len(b)) {
					t.Errorf("P9.5: %d bytes of memory for %d bytes: %x and on", n, len(b), b[:2])
				}
			}
			if f := Whole(b, 1024); f == (api.Fault{}) && c.row[0] != 0xdb {
				t.Errorf("P9.1: %x and on is well-formed", b[:2])
			}
		}
	}
}

// TestTags: P9.5: tags in one another, so many that a call for each would need more than the stack is let have.
func TestTags(t *testing.T) {
	defer debug.SetMaxStack(debug.SetMaxStack(1 << 24))
	for _, c := range []struct {
		row     string
		behind  string
		whole   api.Fault
		meaning int
	}{
		{"\xc1", "\xf6", api.Fault{}, 0}, {"\xd8\x2a", "\x47\x00\x01\x55\x00\x02hi", api.Fault{}, 0}, {"\xdb" + strings.Repeat("\xff", 8), "\x80", api.Fault{}, 0},
		{"\xd9\x00\x2a", "\x5f\xff", api.Fault{}, 0}, {"\xc1", "\xff", fault(api.ErrLooseForm, 1<<20), 0}, {"\xc1", "", fault(api.ErrLooseShort, 1<<20), 0}, {"\xc1", "\x81\x80", fault(api.ErrLooseDeep, 1<<20+1), 0},
	} {
		b := []byte(strings.Repeat(c.row, 1<<20) + c.behind)
		if f := Whole(b, 1); f != c.whole {
			t.Errorf("P9.1: many tags %x: %+v, not %+v", c.row, f, c.whole)
		}
		if n := taken(func() { Whole(b, 1) }); n > 1<<16 {
			t.Errorf("P9.5: many tags %x: %d bytes of memory", c.row, n)
		}
		want := c.whole
		if want == (api.Fault{}) {
			want = fault(api.ErrLooseMeaning, c.meaning)
		}
		expect(t, b, 1, api.Value{}, nil, want)
		list := append([]byte{0x82, 0x01}, b...)
		if f := firstFault(Parse(list, 2)); f.Code != api.ErrLooseMeaning && c.whole == (api.Fault{}) || f.Code == api.ErrLooseMeaning && f.At != 2 {
			t.Errorf("P9.2: many tags %x in a list: %+v", c.row, f)
		}
	}
}

// TestMemory: P9.5, R2: the bytes are not changed, and not kept; what is told shares nothing.
func TestMemory(t *testing.T) {
	d := sample.Dice(94)
	for i := range 2000 {
		b, _ := loosely(&d, d.Mixed(d.Tree(4)))
		if i%4 == 0 {
			b = oddly(&d, d.Tree(4))
		}
		room := append(append(make([]byte, 0, len(b)+40), b...), strings.Repeat("s", 40)...)
		was := slices.Clone(room)
		in := room[:len(b)]
		Whole(in, 4)
		v, notes, _ := Parse(in, 4)
		w, others, _ := Parse(in, 4)
		form, _ := Normal(in, 4)
		again, _ := Normal(in, 4)
		if !bytes.Equal(room, was) {
			t.Fatalf("R2: %x is changed", was)
		}
		kept, keptForm, keptNotes := sample.Again(v), slices.Clone(form), slices.Clone(notes)
		clear(room)
		clear(again[:cap(again)])
		clear(others[:cap(others)])
		if !same(kept, v) || !bytes.Equal(keptForm, form) || !slices.Equal(keptNotes, notes) {
			t.Fatalf("R2: what is told of %x hangs on the bytes, or on another answer", was)
		}
		if !sample.Apart(v, w, api.Value{Bytes: room}, api.Value{Bytes: form}, api.Value{Bytes: again}) {
			t.Fatalf("R2: of %x two lists share memory", was)
		}
	}
	hold(t, nil, 5)
	hold(t, []byte{}, 5)
}
