package read

import (
	"bytes"
	"reflect"
	"runtime"
	"slices"
	"strings"
	"testing"

	"trellis/api"
	"trellis/head"
	"trellis/lay"
	"trellis/sample"
	"trellis/value"
)

// fault tells a fault.
func fault(code api.Errno, at int) api.Fault { return api.Fault{Code: code, At: at} }

// same tells whether two values are the same as they stand, nil and empty lists being one.
func same(a, b api.Value) bool { return reflect.DeepEqual(sample.Again(a), sample.Again(b)) }

// expect fails if the three calls do not tell this tree of so many bytes, or this fault, as First does.
func expect(t *testing.T, b []byte, depth int, v api.Value, used int, f api.Fault) {
	t.Helper()
	w, n, g := First(b, depth)
	if g != f || n != used || !same(v, w) {
		t.Fatalf("P8.2: First(%x, %d): %+v, %d, %+v; not %+v, %d, %+v", b, depth, w, n, g, v, used, f)
	}
	if f == (api.Fault{}) && used < len(b) {
		v, f = api.Value{}, fault(api.ErrReadLeft, used)
	}
	if w, g := Decode(b, depth); g != f || !same(v, w) {
		t.Fatalf("P8.1: Decode(%x, %d): %+v, %+v; not %+v, %+v", b, depth, w, g, v, f)
	}
	if g := Check(b, depth); g != f {
		t.Fatalf("P8.2: Check(%x, %d): %+v; not %+v", b, depth, g, f)
	}
}

// hold fails if the three calls do not tell what the second reading tells.
func hold(t *testing.T, b []byte, depth int) {
	t.Helper()
	v, used, f := firstOf(b, depth)
	expect(t, b, depth, v, used, f)
}

// refuse fails if a row of bytes is not refused so, with nothing beside the fault.
func refuse(t *testing.T, b string, depth int, f api.Fault) {
	t.Helper()
	if v, g := Decode([]byte(b), depth); g != f || !same(v, api.Value{}) {
		t.Errorf("P8.1: Decode(%x, %d): %+v, %+v; not %+v", b, depth, v, g, f)
	}
	hold(t, []byte(b), depth)
}

// formOf tells the form of a tree.
func formOf(t *testing.T, v api.Value) []byte {
	t.Helper()
	b, e := lay.Encode(v)
	if e != api.OK {
		t.Fatalf("no form: %d", e)
	}
	return b
}

// TestExamples: the chapter's table.
func TestExamples(t *testing.T) {
	expect(t, []byte("\x82\x01\x81\x02"), 2, sample.List(sample.Whole(1), sample.List(sample.Whole(2))), 4, api.Fault{})
	expect(t, []byte("\xd8\x2a\x47\x00\x01\x55\x00\x02hi"), 1024, sample.Link("hi"), 10, api.Fault{})
	expect(t, []byte("\x01\x02"), 0, sample.Whole(1), 1, api.Fault{})
	expect(t, []byte("\x82\x01"), 5, api.Value{}, 0, fault(api.ErrReadShort, 2))
	refuse(t, "\x82\x01\x81\x02", 1, fault(api.ErrReadDeep, 2))
	refuse(t, "\x80", 0, fault(api.ErrReadDeep, 0))
	refuse(t, "\x9f", 0, fault(api.ErrReadDeep, 0))
	refuse(t, "\x01", -1, fault(api.ErrReadDepth, 0))
	refuse(t, "\x01", 1025, fault(api.ErrReadDepth, 0))
	for _, c := range []struct {
		b    string
		code api.Errno
		at   int
	}{
		{"", api.ErrReadShort, 0}, {"\x19\x01", api.ErrReadShort, 0}, {"\x61", api.ErrReadShort, 0},
		{"\x82\x01", api.ErrReadShort, 2}, {"\x9b\xff\xff\xff\xff\xff\xff\xff\xff", api.ErrReadShort, 9},
		{"\xf7", api.ErrReadForbidden, 0}, {"\xf9\x3c\x00", api.ErrReadForbidden, 0}, {"\x9f\xff", api.ErrReadForbidden, 0},
		{"\x1c", api.ErrReadForbidden, 0}, {"\xd8\x2b\x00", api.ErrReadForbidden, 0}, {"\x61\xff", api.ErrReadForbidden, 0},
		{"\xfb\x7f\xf0\x00\x00\x00\x00\x00\x00", api.ErrReadForbidden, 0}, {"\x81\xf8\x20", api.ErrReadForbidden, 1},
		{"\xa1\x01\x02", api.ErrReadForbidden, 1}, {"\xd8\x2a\x01", api.ErrReadForbidden, 2}, {"\xd8\x2a\x41\x01", api.ErrReadForbidden, 2},
		{"\x18\x17", api.ErrReadForm, 0}, {"\xd9\x00\x2a\x40", api.ErrReadForm, 0}, {"\x78\x01\x61", api.ErrReadForm, 0},
		{"\xa2ab\x01aa\x02", api.ErrReadForm, 4}, {"\xa2aa\x01aa\x02", api.ErrReadForm, 4}, {"\xa2baa\x01ab\x02", api.ErrReadForm, 5},
		{"\x01\x02", api.ErrReadLeft, 1}, {"\xf6\x1c", api.ErrReadLeft, 1},
	} {
		refuse(t, c.b, 1024, fault(c.code, c.at))
	}
}

// TestRows: P8.1: of each place the table's first row that applies, whatever the rows below say.
func TestRows(t *testing.T) {
	for _, c := range []struct {
		b     string
		depth int
		code  api.Errno
		at    int
	}{
		// too deep, ahead of a head that is not whole, is none, is forbidden or too long
		{"\x98", 0, api.ErrReadDeep, 0}, {"\xbb\x01", 0, api.ErrReadDeep, 0}, {"\x9c", 0, api.ErrReadDeep, 0}, {"\xbf", 0, api.ErrReadDeep, 0},
		{"\xb8\x01", 0, api.ErrReadDeep, 0}, {"\x81\x9e", 1, api.ErrReadDeep, 1}, {"\xa1aa\xa0", 1, api.ErrReadDeep, 3},
		// keys and names that are lists or maps, too deep or not
		{"\xa1\x80\x01", 1, api.ErrReadDeep, 1}, {"\xa1\x80\x01", 2, api.ErrReadForbidden, 1}, {"\xa1\xa0\x01", 1, api.ErrReadDeep, 1},
		{"\xd8\x2a\x80", 0, api.ErrReadDeep, 2}, {"\xd8\x2a\x80", 1, api.ErrReadForbidden, 2}, {"\x81\xd8\x2a\xb9\x00", 1, api.ErrReadDeep, 3},
		{"\xa1\x98", 2, api.ErrReadShort, 1}, {"\xd8\x2a\x98", 1, api.ErrReadShort, 2},
		// not whole, ahead of what is forbidden and of a head that is too long
		{"\x62\xff", 9, api.ErrReadShort, 0}, {"\x78\x05\xff", 9, api.ErrReadShort, 0}, {"\xa1\x42\x01", 9, api.ErrReadShort, 1},
		{"\xd8\x2a\x62a", 9, api.ErrReadShort, 2}, {"\xd8\x2a\x19\x01", 9, api.ErrReadShort, 2}, {"\xd9\x00", 9, api.ErrReadShort, 0},
		{"\xfb\x7f\xf0", 9, api.ErrReadShort, 0}, {"\xf9\x3c", 9, api.ErrReadShort, 0}, {"\xa1", 9, api.ErrReadShort, 1}, {"\xd8\x2a", 9, api.ErrReadShort, 2},
		{"\xa2ab\x01\x62a", 9, api.ErrReadShort, 4}, {"\xa2ab\x01", 9, api.ErrReadShort, 4},
		{"\x5b\x80\x00\x00\x00\x00\x00\x00\x00a", 9, api.ErrReadShort, 0}, {"\x7b\xff\xff\xff\xff\xff\xff\xff\xffa", 9, api.ErrReadShort, 0},
		{"\x9b\x80\x00\x00\x00\x00\x00\x00\x00\x01", 9, api.ErrReadShort, 10}, {"\xbb\xff\xff\xff\xff\xff\xff\xff\xffaa\x01", 9, api.ErrReadShort, 12},
		{"\xbb\x80\x00\x00\x00\x00\x00\x00\x01aa", 9, api.ErrReadShort, 11},
		// forbidden, ahead of a head that is too long and of keys that do not rise
		{"\x5f", 9, api.ErrReadForbidden, 0}, {"\x7f", 9, api.ErrReadForbidden, 0}, {"\xbf", 9, api.ErrReadForbidden, 0}, {"\xff", 9, api.ErrReadForbidden, 0},
		{"\x5c", 9, api.ErrReadForbidden, 0}, {"\xfc", 9, api.ErrReadForbidden, 0}, {"\xf8\x1f", 9, api.ErrReadForbidden, 0}, {"\xf8\x14", 9, api.ErrReadForbidden, 0},
		{"\xd9\x00\x2b\x40", 9, api.ErrReadForbidden, 0}, {"\xc2\x40", 9, api.ErrReadForbidden, 0}, {"\xdb\xff\xff\xff\xff\xff\xff\xff\xff", 9, api.ErrReadForbidden, 0},
		{"\x78\x01\xff", 9, api.ErrReadForbidden, 0}, {"\x63\xed\xa0\x80", 9, api.ErrReadForbidden, 0}, {"\xa1\x61\xff\x00", 9, api.ErrReadForbidden, 1},
		{"\xa1\x18\x01\x00", 9, api.ErrReadForbidden, 1}, {"\xa1\x41a\x00", 9, api.ErrReadForbidden, 1}, {"\xa1\xf6\x00", 9, api.ErrReadForbidden, 1},
		{"\xa1\xd8\x2a\x40\x00", 9, api.ErrReadForbidden, 1}, {"\xa2ab\x00\x61\xff\x00", 9, api.ErrReadForbidden, 4},
		{"\xd8\x2a\x61a", 9, api.ErrReadForbidden, 2}, {"\xd8\x2a\x40", 9, api.ErrReadForbidden, 2}, {"\xd8\x2a\x41\x00", 9, api.ErrReadForbidden, 2},
		{"\xd8\x2a\x58\x01\x01", 9, api.ErrReadForbidden, 2}, {"\xd8\x2a\xd8\x2a\x40", 9, api.ErrReadForbidden, 2}, {"\xd8\x2a\xf6", 9, api.ErrReadForbidden, 2},
		{"\xd8\x2a\x48\x00\x01\x55\x00\x02hix", 9, api.ErrReadForbidden, 2}, {"\xd8\x2a\x46\x00\x01\x55\x00\x02h", 9, api.ErrReadForbidden, 2},
		{"\xd8\x2a\x46\x01\x55\x00\x02hi", 9, api.ErrReadForbidden, 2}, {"\xfb\xff\xf8\x00\x00\x00\x00\x00\x00", 9, api.ErrReadForbidden, 0},
		// what is left: not the one form
		{"\x98\x00", 9, api.ErrReadForm, 0}, {"\xb9\x00\x00", 9, api.ErrReadForm, 0}, {"\x38\x00", 9, api.ErrReadForm, 0}, {"\x58\x00", 9, api.ErrReadForm, 0},
		{"\x1b\x00\x00\x00\x00\xff\xff\xff\xff", 9, api.ErrReadForm, 0}, {"\xa1\x78\x01a\x00", 9, api.ErrReadForm, 1},
		{"\xd8\x2a\x58\x07\x00\x01\x55\x00\x02hi", 9, api.ErrReadForm, 2}, {"\xdb\x00\x00\x00\x00\x00\x00\x00\x2a\x40", 9, api.ErrReadForm, 0},
		{"\xa2\x60\x00\x60\x00", 9, api.ErrReadForm, 3}, {"\xa3aa\x00ac\x00ab\x00", 9, api.ErrReadForm, 7},
		{"\xa2aa\xa1ac\x00aa\x00", 9, api.ErrReadForm, 7}, {"\x81\xa2ab\x81\x00aa\x00", 9, api.ErrReadForm, 6},
		// what is left behind
		{"\x80\x80", 1, api.ErrReadLeft, 1}, {"\xa0\x00", 9, api.ErrReadLeft, 1}, {"aaa", 0, api.ErrReadLeft, 2},
		{"\x80\xff", -1, api.ErrReadDepth, 0}, {"", 1025, api.ErrReadDepth, 0}, {"\x80", -1 << 63, api.ErrReadDepth, 0}, {"\x80", 1<<63 - 1, api.ErrReadDepth, 0},
	} {
		refuse(t, c.b, c.depth, fault(c.code, c.at))
	}
}

// TestShortRows: P8.1, P8.2: all rows of few bytes.
func TestShortRows(t *testing.T) {
	for i := range 1 << 16 {
		b := []byte{byte(i >> 8), byte(i)}
		for depth := range 3 {
			hold(t, b[:1], depth)
			hold(t, b, depth)
			hold(t, append([]byte{0x81}, b...), depth)
			hold(t, append([]byte{0xa1}, b...), depth)
			hold(t, append([]byte{0xd8, 0x2a}, b...), depth)
		}
	}
	some := []byte("\x00\x01\x18\x41\x60ab\x78\x80\x81\x82\x98\xa0\xa1\xa2\xd8\x2a\xf6\xff")
	var rows func(b []byte)
	rows = func(b []byte) {
		hold(t, b, 2)
		if len(b) == 4 {
			return
		}
		for _, c := range some {
			rows(append(b, c))
		}
	}
	rows(make([]byte, 0, 4))
}

// TestMaps: P8.1: keys in any order, and twice, in maps of maps.
func TestMaps(t *testing.T) {
	keys := []string{"", "a", "b", "aa", "ab", "\u00e4", "\x00", "aaa"}
	for i := range 8 * 8 * 8 {
		b := []byte{0xa3}
		for _, k := range []int{i % 8, i / 8 % 8, i / 64} {
			b = append(append(b, head.Lay(api.MajorText, uint64(len(keys[k])))...), keys[k]...)
			b = append(b, "\xa1ax\x01"...)
		}
		hold(t, b, 2)
		hold(t, b, 1)
	}
}

// TestForms: P8.3: a form is read as its tree, with the entries in keys' order, from its own depth on.
func TestForms(t *testing.T) {
	d := sample.Dice(80)
	for range 1500 {
		v := d.Tree(5)
		b := formOf(t, v)
		for depth := range value.Depth(v) + 3 {
			hold(t, b, depth)
			w, f := Decode(b, depth)
			if depth < value.Depth(v) {
				if f.Code != api.ErrReadDeep {
					t.Fatalf("P8.3: %x, %d: %+v", b, depth, f)
				}
				continue
			}
			if f != (api.Fault{}) || !same(w, value.Sorted(v)) || value.Check(w) != api.OK {
				t.Fatalf("P8.3: %x, %d: %+v, %+v", b, depth, w, f)
			}
		}
	}
	for _, v := range sample.Leaves() {
		expect(t, formOf(t, v), 0, v, len(formOf(t, v)), api.Fault{})
	}
}

// TestNumbers: P8.3: numbers, lengths and floats about the edges of heads.
func TestNumbers(t *testing.T) {
	d := sample.Dice(81)
	for i := range 64 {
		for _, n := range []uint64{1<<i - 1, 1 << i, 1<<i + 1, ^uint64(0) >> i, d.Next() >> i, 23, 24} {
			for _, v := range []api.Value{sample.Whole(n), {Kind: api.KindInt, Neg: true, N: n}} {
				b := formOf(t, v)
				expect(t, b, 0, v, len(b), api.Fault{})
			}
			b := []byte{0xfb}
			for s := 56; s >= 0; s -= 8 {
				b = append(b, byte(n>>s))
			}
			hold(t, b, 0)
			b[1] |= 0x7f
			hold(t, b, 0)
			b[2] |= 0xf0
			refuse(t, string(b), 0, fault(api.ErrReadForbidden, 0))
		}
	}
	for _, n := range []int{0, 23, 24, 255, 256, 65535, 65536} {
		long := strings.Repeat("\u00e4", n/2) + strings.Repeat("a", n%2)
		for _, v := range []api.Value{sample.Text(long), {Kind: api.KindBytes, Bytes: []byte(long)}, {Kind: api.KindMap, Keys: []string{long}, Items: []api.Value{sample.Null()}}} {
			b := formOf(t, v)
			expect(t, b, 1, v, len(b), api.Fault{})
		}
	}
}

// TestHeads: P8.1: each head in each length that has room for its argument.
func TestHeads(t *testing.T) {
	for major := range byte(8) {
		for _, n := range []byte{0, 1, 2, 20, 21, 22, 23, 24, 31, 32, 42, 43, 255} {
			for info := range byte(4) {
				b := append([]byte{major<<5 | 24 + info}, make([]byte, 1<<info)...)
				b[len(b)-1] = n
				for _, behind := range []string{"", "\x00", strings.Repeat("a", 300), "\x47\x00\x01\x55\x00\x02hi", strings.Repeat("\x80", 300), "aa\x00ab\x00" + strings.Repeat("\xff", 40)} {
					hold(t, append(slices.Clone(b), behind...), 2)
					hold(t, slices.Concat([]byte{0xd8, 0x2a}, b, []byte(behind)), 2)
					hold(t, slices.Concat([]byte{0xa1}, b, []byte(behind)), 2)
				}
			}
		}
	}
}

// altered tells a row of bytes with one thing in it made another.
func altered(d *sample.Dice, b []byte) []byte {
	b = slices.Clone(b)
	at := d.Below(len(b))
	switch d.Below(6) {
	case 0:
		b[at] ^= 1 << d.Below(8)
	case 1:
		b[at] = byte(d.Next())
	case 2:
		b = slices.Insert(b, at, byte(d.Next()))
	case 3:
		b = slices.Delete(b, at, at+1)
	case 4:
		b[at] |= 24 + byte(d.Below(8))
	default:
		to := d.Below(len(b))
		b[at], b[to] = b[to], b[at]
	}
	return b
}

// TestAltered: P8.1 to P8.3: what is nearly a form: the first fault and its place, or the tree whose form it is.
func TestAltered(t *testing.T) {
	d := sample.Dice(82)
	codes := map[api.Errno]int{}
	for range 25000 {
		b := formOf(t, d.Tree(4))
		for range 1 + d.Below(2) {
			if len(b) > 0 {
				b = altered(&d, b)
			}
		}
		depth := d.Below(5)
		hold(t, b, depth)
		v, f := Decode(b, depth)
		codes[f.Code]++
		if f == (api.Fault{}) && (!bytes.Equal(formOf(t, v), b) || value.Depth(v) > depth) {
			t.Fatalf("P8.3: %x is read, and not the form of %+v", b, v)
		}
	}
	for code := api.ErrReadDeep; code <= api.ErrReadLeft; code++ {
		if codes[code] == 0 || codes[api.OK] == 0 {
			t.Errorf("no row of bytes was told %d", code)
		}
	}
}

// TestBeginnings: P8.4: forms that are cut, what is laid behind, greater depths.
func TestBeginnings(t *testing.T) {
	d := sample.Dice(83)
	for range 700 {
		v := d.Tree(3)
		b := formOf(t, v)
		for i := range b {
			if f := Check(b[:i], value.Depth(v)); f.Code != api.ErrReadShort {
				t.Fatalf("P8.4: the first %d bytes of %x: %+v", i, b, f)
			}
			hold(t, b[:i], 1024)
		}
		row := altered(&d, b)
		for depth := range 5 {
			f := Check(row, depth)
			for _, behind := range []string{"\x00", "\xff", "aa", string(b)} {
				if g := Check(append(slices.Clone(row), behind...), depth); f != g && f.Code != api.ErrReadShort && f.Code != api.OK {
					t.Fatalf("P8.4: %x with %x behind it: %+v, not %+v", row, behind, g, f)
				}
			}
			if g := Check(row, depth+1); f != g && f.Code != api.ErrReadDeep {
				t.Fatalf("P8.4: %x, %d: %+v; of one more: %+v", row, depth, f, g)
			}
		}
	}
}

// TestDeep: P8.1, P8.3: lists and maps as deep as may be, and deeper.
func TestDeep(t *testing.T) {
	for _, how := range []string{"l", "m", "lm", "ml"} {
		v := sample.Within(sample.List(), 1023, how)
		b := formOf(t, v)
		expect(t, b, 1024, v, len(b), api.Fault{})
		if f := Check(b, 1023); f.Code != api.ErrReadDeep || f.At != len(b)-1 {
			t.Errorf("P8.3: %s, 1023: %+v", how, f)
		}
		if f := Check(append([]byte{0x81}, b...), 1024); f.Code != api.ErrReadDeep || f.At != len(b) {
			t.Errorf("P8.1: %s, 1025 deep: %+v", how, f)
		}
		for i := range b {
			if f := Check(b[:i], 1024); f.Code != api.ErrReadShort {
				t.Fatalf("P8.4: %s, the first %d bytes: %+v", how, i, f)
			}
		}
	}
	leaf := sample.Within(sample.Null(), 1024, "lm")
	expect(t, formOf(t, leaf), 1024, leaf, len(formOf(t, leaf)), api.Fault{})
	for _, row := range []string{"\x81", "\x82", "\xa1\x60", "\x9b\xff\xff\xff\xff\xff\xff\xff\xff"} {
		f := Check([]byte(strings.Repeat(row, 1<<16)), 1024)
		if f != fault(api.ErrReadDeep, 1024*len(row)) {
			t.Errorf("P8.1: %x again and again: %+v", row, f)
		}
	}
	refuse(t, strings.Repeat("\xd8\x2a", 1000), 1024, fault(api.ErrReadForbidden, 2))
}

// TestWide: P8.1: many items and entries, and lists that end within lists.
func TestWide(t *testing.T) {
	list, entries := api.Value{Kind: api.KindList}, api.Value{Kind: api.KindMap}
	for i := range 1 << 17 {
		list.Items = append(list.Items, sample.List(sample.Whole(uint64(i))))
		entries.Items = append(entries.Items, sample.Map(""))
		entries.Keys = append(entries.Keys, string([]byte{'A' + byte(i>>15), 'A' + byte(i>>10&31), 'A' + byte(i>>5&31), 'A' + byte(i&31)}))
	}
	for _, v := range []api.Value{list, entries} {
		b := formOf(t, v)
		w, f := Decode(b, 2)
		if f != (api.Fault{}) || !bytes.Equal(formOf(t, w), b) || len(w.Items) != 1<<17 {
			t.Errorf("P8.3: %d items: %+v", len(w.Items), f)
		}
		if f := Check(b[:len(b)-1], 2); f.Code != api.ErrReadShort {
			t.Errorf("P8.4: %+v", f)
		}
	}
}

// taken tells how many bytes of memory a reading takes.
func taken(b []byte) uint64 {
	var from, to runtime.MemStats
	runtime.ReadMemStats(&from)
	First(b, 1024)
	runtime.ReadMemStats(&to)
	return to.TotalAlloc - from.TotalAlloc
}

// TestTaken: P8.5: arguments that tell of more than there is take nothing.
func TestTaken(t *testing.T) {
	most := "\xff\xff\xff\xff\xff\xff\xff\xff"
	half := "\x80\x00\x00\x00\x00\x00\x00\x00"
	for _, c := range []struct {
		row   string
		times int
	}{
		{"\x9b" + most, 1}, {"\x9b" + half, 1}, {"\xbb" + most, 1}, {"\xbb" + half, 1}, {"\x5b" + most, 1}, {"\x5b" + half, 1}, {"\x7b" + most, 1}, {"\x7b" + half, 1},
		{"\x9a\x0f\xff\xff\xff", 1}, {"\xba\x0f\xff\xff\xff", 1}, {"\x5a\x0f\xff\xff\xff", 1}, {"\x7a\x0f\xff\xff\xff", 1}, {"\xd8\x2a\x5a\x0f\xff\xff\xff", 1},
		{"\x9b" + most, 1024}, {"\xbb" + most + "\x60", 1024}, {"\x99\x20\x00", 1024}, {"\xb9\x20\x00aa", 1024}, {"\x9a\x0f\xff\xff\xff", 1000},
	} {
		for _, behind := range []string{"", "\x01", strings.Repeat("\x00", 5000), strings.Repeat("\x80", 5000)} {
			b := []byte(strings.Repeat(c.row, c.times) + behind)
			if n := taken(b); n > uint64(1<<14+1200*len(b)) {
				t.Errorf("P8.5: %d bytes of memory for %d bytes: %x and on", n, len(b), b[:8])
			}
			if f := Check(b, 1024); f == (api.Fault{}) {
				t.Errorf("P8.5: %x and on is read", b[:8])
			}
		}
	}
}

// TestMemory: P8.5: the bytes are not changed, and not kept; what is told shares nothing.
func TestMemory(t *testing.T) {
	d := sample.Dice(84)
	for i := range 4000 {
		b := formOf(t, d.Tree(4))
		if i%4 == 0 {
			b = altered(&d, b)
		}
		room := append(append(make([]byte, 0, len(b)+40), b...), strings.Repeat("s", 40)...)
		was := slices.Clone(room)
		in := room[:len(b)]
		v, _ := Decode(in, 4)
		w, _, _ := First(in, 4)
		Check(in, 4)
		if !bytes.Equal(room, was) {
			t.Fatalf("R2: %x is changed", was)
		}
		kept := sample.Again(v)
		clear(room)
		if !same(kept, v) {
			t.Fatalf("R2: the tree of %x hangs on the bytes", was)
		}
		if !sample.Apart(v, w, api.Value{Bytes: room}) {
			t.Fatalf("R2: of %x two lists share memory", was)
		}
	}
	hold(t, nil, 5)
	hold(t, []byte{}, 5)
}
