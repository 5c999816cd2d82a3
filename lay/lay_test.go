package lay

import (
	"bytes"
	"math"
	"reflect"
	"runtime"
	"slices"
	"strconv"
	"strings"
	"testing"
	"unsafe"

	"trellis/api"
	"trellis/sample"
	"trellis/value"
)

// octetsOf tells a tree of bytes.
func octetsOf(b string) api.Value { return api.Value{Kind: api.KindBytes, Bytes: []byte(b)} }

// below0 tells the number -1 - n.
func below0(n uint64) api.Value { return api.Value{Kind: api.KindInt, Neg: true, N: n} }

// hold tells a fault if a tree is not laid as these bytes.
func hold(t *testing.T, v api.Value, form []byte) {
	t.Helper()
	b, e := Encode(v)
	if e != api.OK || !bytes.Equal(b, form) {
		t.Fatalf("P7.1: %x, %d; not %x", b, e, form)
	}
	if n, e := Size(v); e != api.OK || n != len(form) {
		t.Fatalf("P7.2: %d, %d; not %d", n, e, len(form))
	}
	for _, front := range [][]byte{nil, {}, {0xf6}, []byte("some bytes ahead")} {
		if b, e = Append(front, v); e != api.OK || !bytes.Equal(b, slices.Concat(front, form)) {
			t.Fatalf("P7.3: %x, %d; not %x and %x", b, e, front, form)
		}
	}
}

// refuse tells a fault if a value is not refused by that error, with nothing beside it.
func refuse(t *testing.T, v api.Value, want api.Errno) {
	t.Helper()
	if b, e := Encode(v); b != nil || e != want {
		t.Fatalf("P7.1: %x, %d; not %d", b, e, want)
	}
	if n, e := Size(v); n != 0 || e != want {
		t.Fatalf("P7.2: %d, %d; not %d", n, e, want)
	}
	for _, front := range [][]byte{nil, {1, 2}} {
		if b, e := Append(front, v); b != nil || e != want {
			t.Fatalf("P7.3: %x, %d; not %d", b, e, want)
		}
	}
}

// TestExamples: the chapter's table, and what else has a form that is short.
func TestExamples(t *testing.T) {
	for _, c := range []struct {
		v api.Value
		b string
	}{
		{sample.Null(), "\xf6"}, {api.Value{Kind: api.KindBool}, "\xf4"}, {api.Value{Kind: api.KindBool, Flag: true}, "\xf5"},
		{sample.Whole(0), "\x00"}, {sample.Whole(23), "\x17"}, {sample.Whole(24), "\x18\x18"}, {sample.Whole(256), "\x19\x01\x00"},
		{sample.Whole(1<<64 - 1), "\x1b\xff\xff\xff\xff\xff\xff\xff\xff"},
		{below0(0), "\x20"}, {below0(23), "\x37"}, {below0(24), "\x38\x18"}, {below0(1<<64 - 1), "\x3b\xff\xff\xff\xff\xff\xff\xff\xff"},
		{sample.Float(0x3ff8000000000000), "\xfb\x3f\xf8\x00\x00\x00\x00\x00\x00"}, {sample.Float(0x0123456789abcdef), "\xfb\x01\x23\x45\x67\x89\xab\xcd\xef"},
		{sample.Float(0), "\xfb\x00\x00\x00\x00\x00\x00\x00\x00"}, {sample.Float(1 << 63), "\xfb\x80\x00\x00\x00\x00\x00\x00\x00"},
		{sample.Text("a"), "aa"}, {sample.Text(""), "\x60"}, {octetsOf("\x01\x02"), "\x42\x01\x02"}, {octetsOf(""), "\x40"},
		{sample.List(), "\x80"}, {sample.List(sample.Whole(1), sample.List(sample.Whole(2))), "\x82\x01\x81\x02"}, {sample.Map(""), "\xa0"},
		{sample.Map("b aa a", sample.Whole(1), sample.Whole(2), sample.Whole(3)), "\xa3aa\x03ab\x01baa\x02"},
		{api.Value{Kind: api.KindMap, Keys: []string{"a", ""}, Items: []api.Value{sample.Null(), sample.Map("")}}, "\xa2\x60\xa0aa\xf6"},
		{sample.Link("hi"), "\xd8\x2a\x47\x00\x01\x55\x00\x02hi"},
		{api.Value{Kind: api.KindLink, Link: api.Link{Codec: api.CodecOld, Hash: api.HashSha, Digest: strings.Repeat("d", 32)}}, "\xd8\x2a\x58\x23\x00\x12\x20" + strings.Repeat("d", 32)},
	} {
		hold(t, c.v, []byte(c.b))
		if string(formOf(c.v)) != c.b {
			t.Errorf("%x by the second reading", formOf(c.v))
		}
	}
	if b, e := Append([]byte{1, 2}, sample.Null()); e != api.OK || string(b) != "\x01\x02\xf6" {
		t.Errorf("P7.3: %x, %d", b, e)
	}
}

// TestNumbers: P7.1, P7.2: whole numbers and floats, at and beside each power of two.
func TestNumbers(t *testing.T) {
	for bit := range 64 {
		for _, n := range []uint64{1<<bit - 2, 1<<bit - 1, 1 << bit, 1<<bit + 1, 3 << bit} {
			for _, v := range []api.Value{sample.Whole(n), below0(n), sample.Float(n), sample.Float(n | 1<<63)} {
				if value.Check(v) == api.OK {
					hold(t, v, formOf(v))
				}
			}
		}
	}
	for n := range uint64(300) {
		hold(t, sample.Whole(n), formOf(sample.Whole(n)))
		hold(t, below0(n), formOf(below0(n)))
	}
	for _, x := range []float64{0, math.Copysign(0, -1), 1, -1, math.MaxFloat64, math.SmallestNonzeroFloat64, 0.1} {
		v := sample.Float(math.Float64bits(x))
		hold(t, v, formOf(v))
	}
}

// TestLengths: P7.1, P7.2: texts, bytes, lists and maps at and beside each length where the head grows.
func TestLengths(t *testing.T) {
	for _, n := range []int{0, 1, 2, 22, 23, 24, 25, 254, 255, 256, 257, 65534, 65535, 65536, 65537} {
		row := strings.Repeat("x", n)
		list, entries := sample.List(), sample.Map("")
		for i := range n {
			list.Items = append(list.Items, sample.Whole(uint64(i)))
			entries.Keys = append(entries.Keys, strconv.Itoa(i*7919))
			entries.Items = append(entries.Items, sample.Null())
		}
		for _, v := range []api.Value{sample.Text(row), octetsOf(row), list, entries, sample.Map("b "+row, sample.Null(), sample.Null())} {
			if value.Check(v) == api.OK {
				hold(t, v, formOf(v))
			}
		}
	}
}

// TestLinks: P7.1, P7.2: links of both versions, of all lengths.
func TestLinks(t *testing.T) {
	sha := strings.Repeat("\x00\xff", 16)
	links := []api.Link{{Codec: api.CodecOld, Hash: api.HashSha, Digest: sha}}
	for _, codec := range []uint64{0, 1, api.CodecRaw, api.CodecTree, 127, 128, 1<<14 - 1, 1 << 14, 1 << 56, 1<<63 - 1} {
		links = append(links, api.Link{Version: 1, Codec: codec, Hash: api.HashSha, Digest: sha})
		for n := range api.MaxInline + 1 {
			links = append(links, api.Link{Version: 1, Codec: codec, Digest: strings.Repeat("\x00", n)})
		}
	}
	for _, l := range links {
		v := api.Value{Kind: api.KindLink, Link: l}
		hold(t, v, formOf(v))
		v = sample.Map("b a", v, sample.List(v, v))
		hold(t, v, formOf(v))
	}
}

// TestMany: P7.1 to P7.4: trees in any order of their entries, and what is none.
func TestMany(t *testing.T) {
	d := sample.Dice(1)
	met := map[api.Errno]int{}
	unlike := 0
	for range 4000 {
		v := d.Tree(4)
		form := formOf(v)
		hold(t, v, form)
		hold(t, d.Mixed(v), form)
		other := d.Touched(v)
		e := value.Check(other)
		met[e]++
		if e != api.OK {
			refuse(t, other, e)
			refuse(t, sample.List(v, other), e)
			continue
		}
		b, _ := Encode(other)
		if bytes.Equal(b, form) != value.Equal(v, other) {
			t.Fatalf("P7.4: %x and %x", form, b)
		}
		if !value.Equal(v, other) {
			unlike++
		}
	}
	for e := api.ErrValueKind; e <= api.ErrValueKeys; e++ {
		if met[e] < 20 {
			t.Errorf("%d has come %d times alone", e, met[e])
		}
	}
	if unlike < 100 {
		t.Errorf("%d unlike trees alone", unlike)
	}
}

// TestBeginnings: P7.4: unlike trees have unlike forms, and none is the beginning of another one's.
func TestBeginnings(t *testing.T) {
	d := sample.Dice(2)
	byForm := map[string]api.Value{}
	for range 20000 {
		v := d.Tree(3)
		b, _ := Encode(v)
		if other, ok := byForm[string(b)]; ok && !value.Equal(v, other) {
			t.Fatalf("P7.4: two trees of %x", b)
		}
		byForm[string(b)] = v
	}
	var forms []string
	for form := range byForm {
		forms = append(forms, form)
	}
	slices.Sort(forms)
	for i := range forms {
		// What begins with a text stands right behind it in order, or something between does.
		if i > 0 && strings.HasPrefix(forms[i], forms[i-1]) {
			t.Fatalf("P7.4: %x begins with %x", forms[i], forms[i-1])
		}
	}
	if len(forms) < 2000 {
		t.Errorf("%d forms alone", len(forms))
	}
}

// TestPieces: P7.4: a list's form is its head and its items' forms, one behind the other.
func TestPieces(t *testing.T) {
	d := sample.Dice(3)
	for _, n := range []int{0, 1, 2, 3, 5, 23, 24, 100, 255, 256, 300} {
		v := sample.List()
		form := headed(4, uint64(n))
		for range n {
			item := d.Tree(2)
			v.Items = append(v.Items, item)
			form, _ = Append(form, item)
		}
		hold(t, v, form)
	}
}

// TestDeep: P7.1 to P7.3, P7.5: 1024 lists and maps in one another, and more.
func TestDeep(t *testing.T) {
	for _, how := range []string{"l", "m", "lm", "mll"} {
		for _, v := range []api.Value{sample.Within(sample.Null(), 1024, how), sample.Within(sample.List(), 1023, how), sample.Within(sample.Map(""), 1023, how)} {
			hold(t, v, formOf(v))
		}
		refuse(t, sample.Within(sample.List(), 1024, how), api.ErrValueDeep)
		refuse(t, sample.Within(sample.Null(), 1025, how), api.ErrValueDeep)
		refuse(t, sample.Within(sample.Null(), 1<<16, how), api.ErrValueDeep)
	}
	deep := sample.Within(sample.List(), 1023, "l")
	hold(t, deep, append(bytes.Repeat([]byte{0x81}, 1023), 0x80))
}

// TestRefused: P7.1 to P7.3: what is no tree, by each error.
func TestRefused(t *testing.T) {
	for _, c := range []struct {
		v api.Value
		e api.Errno
	}{
		{api.Value{}, api.ErrValueKind}, {api.Value{Kind: -1}, api.ErrValueKind}, {api.Value{Kind: 10}, api.ErrValueKind},
		{api.Value{Kind: api.KindList, Flag: true}, api.ErrValueKind}, {api.Value{Kind: api.KindNull, Items: []api.Value{sample.Null()}}, api.ErrValueKind},
		{sample.Float(0x7ff0000000000000), api.ErrValueFloat}, {sample.Float(0x7ff8000000000001), api.ErrValueFloat},
		{sample.Text("\xff"), api.ErrValueText}, {sample.Map("\xff", sample.Null()), api.ErrValueText},
		{api.Value{Kind: api.KindLink}, api.ErrValueLink}, {sample.Link(strings.Repeat("x", 65)), api.ErrValueLink},
		{sample.Map("a"), api.ErrValueKeys}, {sample.Map("", sample.Null()), api.ErrValueKeys}, {sample.Map("a a", sample.Null(), sample.Null()), api.ErrValueKeys},
		// The first one in the order of Items, not in that of keys.
		{sample.Map("b a", sample.Text("\xff"), sample.Float(0x7ff8000000000000)), api.ErrValueText},
	} {
		refuse(t, c.v, c.e)
		refuse(t, sample.List(sample.Null(), sample.Map("k", c.v)), c.e)
	}
}

// TestWide: P7.1, P7.5: maps of many entries, in three orders.
func TestWide(t *testing.T) {
	const n = 1 << 17
	var forms [3][]byte
	for k, step := range []int{1, n - 1, 7919} {
		v := sample.Map("")
		for i := range n {
			at := i * step % n
			v.Keys, v.Items = append(v.Keys, strconv.Itoa(at)), append(v.Items, sample.Whole(uint64(at)))
		}
		b, e := Encode(v)
		if size, _ := Size(v); e != api.OK || size != len(b) {
			t.Fatalf("P7.2: many entries: %d, not %d; %d", size, len(b), e)
		}
		forms[k] = b
	}
	if !bytes.Equal(forms[0], forms[1]) || !bytes.Equal(forms[0], forms[2]) {
		t.Error("P7.4: the order of entries is seen")
	}
	if want := "\xba\x00\x02\x00\x00\x61\x30\x00\x61\x31\x01"; !strings.HasPrefix(string(forms[0]), want) {
		t.Errorf("P7.1: many entries: %x", forms[0][:16])
	}
}

// room tells where the room of bytes begins and ends, what is spare too.
func room(b []byte) (uintptr, uintptr) {
	from := uintptr(unsafe.Pointer(unsafe.SliceData(b)))
	return from, from + uintptr(cap(b))
}

// apart tells whether no two of these rooms meet.
func apart(all ...[]byte) bool {
	for i, a := range all {
		for _, b := range all[i+1:] {
			from, to := room(a)
			begin, end := room(b)
			if from < end && begin < to {
				return false
			}
		}
	}
	return true
}

// TestMemory: P7.5: what is handed in is neither changed nor kept; what is told is new.
func TestMemory(t *testing.T) {
	d := sample.Dice(4)
	for i := range 3000 {
		v := d.Tree(3)
		if i%3 == 0 {
			v = d.Touched(v)
		}
		before := sample.Again(v)
		v = sample.Again(v)
		front := bytes.Repeat([]byte{7}, 400)[:d.Below(300)]
		one, e := Encode(v)
		two, _ := Encode(v)
		three, _ := Append(front, v)
		four, _ := Append(front, v)
		five, _ := Append(nil, v)
		Size(v)
		if e == api.OK && !apart(front, one, two, three, four, five) {
			t.Fatalf("P7.5: memory is shared: %+v", v)
		}
		for _, told := range [][]byte{one, two, three, four, five} {
			told = told[:cap(told)]
			for k := range told {
				told[k] = 9
			}
		}
		if !reflect.DeepEqual(v, before) || !bytes.Equal(front[:400], bytes.Repeat([]byte{7}, 400)) {
			t.Fatalf("P7.5: what was handed in has changed: %+v", v)
		}
		runtime.KeepAlive(front)
	}
}

// TestBytesApart: P7.5: bytes and nothing ahead of them are told in new memory, too; keys and items with spare room stay.
func TestBytesApart(t *testing.T) {
	row := []byte("abcdef")
	v := api.Value{Kind: api.KindBytes, Bytes: row[:3]}
	b, _ := Encode(v)
	if !apart(row, b) {
		t.Error("P7.5: a tree's bytes are kept")
	}
	row[0] = 'x'
	if string(b) != "Cabc" {
		t.Errorf("P7.5: %s", b)
	}
	keys := []string{"b", "a", "spare"}
	items := []api.Value{sample.Whole(1), sample.Whole(2), sample.Text("spare")}
	m := api.Value{Kind: api.KindMap, Keys: keys[:2], Items: items[:2]}
	hold(t, m, []byte("\xa2aa\x02ab\x01"))
	if !slices.Equal(keys, []string{"b", "a", "spare"}) || items[0].N != 1 || items[1].N != 2 || items[2].Text != "spare" || string(row) != "xbcdef" {
		t.Errorf("P7.5: %v, %+v, %s", keys, items, row)
	}
}
