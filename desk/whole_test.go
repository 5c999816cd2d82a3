package desk

// W1 to W4, W15: trees, forms, types, names, floats, told by lines.

import (
	"fmt"
	"math"
	"slices"
	"strconv"
	"strings"
	"testing"
	"unicode/utf16"
	"unicode/utf8"

	"trellis/api"
	"trellis/head"
	"trellis/lay"
	"trellis/link"
	"trellis/number"
	"trellis/sample"
	"trellis/schema"
	"trellis/typed"
	"trellis/value"
)

// free: a tree's text, written otherwise than it is printed, as the dice say.
func free(d *sample.Dice, v api.Value) string {
	blank := func(s string) string { return strings.Repeat(" ", d.Below(2)) + s + strings.Repeat(" ", d.Below(2)) }
	v = d.Mixed(v)
	var parts []string
	for i, item := range v.Items {
		part := free(d, item)
		if v.Kind == api.KindMap {
			part = blank(freeText(d, v.Keys[i])) + ":" + part
		}
		parts = append(parts, part)
	}
	switch v.Kind {
	case api.KindList:
		return blank("[" + blank(strings.Join(parts, ",")) + "]")
	case api.KindMap:
		return blank("{" + blank(strings.Join(parts, ",")) + "}")
	case api.KindText:
		return blank(freeText(d, v.Text))
	case api.KindFloat:
		return blank(strconv.FormatFloat(math.Float64frombits(v.Bits), 'e', 17+d.Below(5), 64))
	case api.KindLink:
		if s, e := link.TextIn(v.Link, api.Base16+d.Below(3)); e == api.OK {
			return blank("&" + s)
		}
	}
	return blank(text(v))
}

// freeText: a text, its code points as they stand, where they may, or by their digits.
func freeText(d *sample.Dice, s string) string {
	out := `"`
	for _, c := range s {
		switch {
		case c >= ' ' && c != '"' && c != '\\' && d.Below(2) == 0:
			out += string(c)
		case c > 0xffff:
			first, second := utf16.EncodeRune(c)
			out += fmt.Sprintf(`\u%04X\u%04x`, first, second)
		default:
			out += fmt.Sprintf(`\u%04x`, c)
		}
	}
	return out + `"`
}

// octets: the bytes that a line has told.
func octets(t *testing.T, s string) []byte {
	t.Helper()
	return treeOfText(t, s).Bytes
}

// altered: bytes again, cut, lengthened, or with some of them others.
func altered(d *sample.Dice, b []byte) []byte {
	b = slices.Clone(b)
	for range 1 + d.Below(2) {
		at := d.Below(len(b) + 1)
		odd := []byte{0, 0x18, 0x1f, 0x41, 0x60, 0x80, 0xa0, 0xd8, 0xf7, 0xfb, 0xff, byte(d.Below(256))}
		switch {
		case d.Below(3) == 0:
			b = b[:at]
		case at == len(b) || d.Below(2) == 0:
			b = slices.Insert(b, at, pick(d, odd))
		default:
			b[at] = pick(d, odd)
		}
	}
	return b
}

// TestOneForm (W1): equal trees have one form, however they are written, others have others; a form is read as its tree.
func TestOneForm(t *testing.T) {
	d := made(t)
	dice := sample.Dice(1)
	forms := map[string]string{}
	for range 500 {
		v := dice.Tree(3)
		line := "lay " + free(&dice, v)
		if len(line) > api.MaxLine {
			continue
		}
		form := does(t, d, line)[0]
		if form != hex(formOf(v)) {
			t.Fatalf("%s: %s", line, form)
		}
		says(t, d, "lay "+free(&dice, v), form)
		says(t, d, "lay "+text(v), form)
		if other, is := forms[form]; is && other != text(v) {
			t.Fatalf("%s is the form of %s and of %s", form, other, text(v))
		}
		forms[form] = text(v)
		depth := value.Depth(v)
		says(t, d, fmt.Sprintf("read %s %d", form, depth), text(v))
		says(t, d, fmt.Sprintf("read %s 1024", form), text(v))
		if depth > 0 {
			if l := does(t, d, fmt.Sprintf("read %s %d", form, depth-1)); !strings.HasPrefix(l[0], "fault 81 ") {
				t.Errorf("%s, less deep: %q", form, l)
			}
		}
		if w := dice.Touched(v); value.Check(w) == api.OK && !value.Equal(v, w) && does(t, d, "lay "+text(w))[0] == form {
			t.Errorf("%s and %s have one form", text(v), text(w))
		}
		b := altered(&dice, octets(t, form))
		if l := does(t, d, lineOf("read", hex(b), "1024"))[0]; !strings.HasPrefix(l, "fault") {
			says(t, d, "lay "+l, hex(b))
		}
	}
	if len(forms) < 300 {
		t.Errorf("%d forms", len(forms))
	}
}

// TestFirstFaults (W1): chapter 8's examples: of what is no form the first fault, by place and then by class.
func TestFirstFaults(t *testing.T) {
	d := made(t)
	for line, want := range map[string]string{
		"82018102 2": "[1,[2]]", "82018102 1": "81 2", "80 0": "81 0", "9f 0": "81 0",
		" 9": "82 0", "1901 9": "82 0", "61 9": "82 0", "8201 9": "82 2", "9bffffffffffffffff 9": "82 9",
		"f7 9": "83 0", "f93c00 9": "83 0", "9fff 9": "83 0", "1c 9": "83 0", "d82b00 9": "83 0", "61ff 9": "83 0",
		"fb7ff0000000000000 9": "83 0", "81f820 9": "83 1", "a10102 9": "83 1", "d82a01 9": "83 2", "d82a4101 9": "83 2",
		"d82a4700015500026869 9": "&bafkqaatine",
		"1817 9":                 "84 0", "d9002a40 9": "84 0", "780161 9": "84 0", "a2616201616102 9": "84 4", "a2616101616102 9": "84 4", "a262616101616202 9": "84 5",
		"0102 9": "85 1", "f61c 9": "85 1", "01 1025": "80 0",
		// Two that may be told at one place, or at two.
		"9f 1": "83 0", "1f 0": "83 0", "781f 0": "82 0", "7961 0": "82 0", "81a1010203 9": "83 2", "8118 9": "82 1", "821817f7 9": "84 1", "a1811c 1": "81 1", "a2616201616180 1": "84 4", "a2616201616180 2": "84 4",
	} {
		if want[0] == '8' {
			want = "fault " + want
		}
		says(t, d, "read #"+line, want)
	}
}

// otherWay lays trees in other ways than the one form, and what is to be noted of them.
type otherWay struct {
	*sample.Dice
	b     []byte
	notes []string
}

func (w *otherWay) note(what int) {
	w.notes = append(w.notes, fmt.Sprintf("note %d %d", what, len(w.b)))
}

// head lays a head, maybe a longer one; falls: of a key that does not rise.
func (w *otherWay) head(major int, n uint64, falls bool) {
	if size := head.Size(n); size < 9 && w.Below(4) == 0 {
		w.note(api.NoteLong)
		w.falls(falls)
		w.b = append(w.b, byte(major)<<5|27)
		for i := 7; i >= 0; i-- {
			w.b = append(w.b, byte(n>>(8*i)))
		}
		return
	}
	w.falls(falls)
	w.b = append(w.b, head.Lay(major, n)...)
}

func (w *otherWay) falls(so bool) {
	if so {
		w.note(api.NoteOrder)
	}
}

// row lays bytes or a text, maybe in pieces of one code point each.
func (w *otherWay) row(major int, s string, falls bool) {
	if w.Below(3) > 0 {
		w.head(major, uint64(len(s)), falls)
		w.b = append(w.b, s...)
		return
	}
	w.note(api.NoteEndless)
	w.falls(falls)
	w.b = append(w.b, byte(major)<<5|31)
	for s != "" {
		_, n := utf8.DecodeRuneInString(s)
		w.head(major, uint64(n), false)
		w.b = append(w.b, s[:n]...)
		s = s[n:]
	}
	w.b = append(w.b, 0xff)
}

func (w *otherWay) float(bits uint64) {
	x := math.Float64frombits(bits)
	n, digits := bits, 64
	if number.Exact16(x) && w.Below(2) == 0 {
		n, digits = uint64(number.Half(x)), 16
	} else if number.Exact32(x) && w.Below(2) == 0 {
		n, digits = uint64(math.Float32bits(float32(x))), 32
	}
	if digits < 64 {
		w.note(api.NoteNarrow)
	}
	w.b = append(w.b, map[int]byte{16: 0xf9, 32: 0xfa, 64: 0xfb}[digits])
	for digits -= 8; digits >= 0; digits -= 8 {
		w.b = append(w.b, byte(n>>digits))
	}
}

func (w *otherWay) item(v api.Value) {
	switch v.Kind {
	case api.KindInt:
		major := api.MajorInt
		if v.Neg {
			major = api.MajorNeg
		}
		w.head(major, v.N, false)
	case api.KindFloat:
		w.float(v.Bits)
	case api.KindText:
		w.row(api.MajorText, v.Text, false)
	case api.KindBytes:
		w.row(api.MajorBytes, string(v.Bytes), false)
	case api.KindLink:
		b, _ := link.Bytes(v.Link)
		w.head(api.MajorTag, 42, false)
		w.row(api.MajorBytes, "\x00"+string(b), false)
	case api.KindList, api.KindMap:
		w.items(w.Mixed(v))
	default:
		w.b = append(w.b, formOf(v)...)
	}
}

func (w *otherWay) items(v api.Value) {
	major, endless := api.MajorList, w.Below(3) == 0
	if v.Kind == api.KindMap {
		major = api.MajorMap
	}
	if endless {
		w.note(api.NoteEndless)
		w.b = append(w.b, byte(major)<<5|31)
	} else {
		w.head(major, uint64(len(v.Items)), false)
	}
	for i, item := range v.Items {
		if v.Kind == api.KindMap {
			w.row(api.MajorText, v.Keys[i], i > 0 && !value.Before(v.Keys[i-1], v.Keys[i]))
		}
		w.item(item)
	}
	if endless {
		w.b = append(w.b, 0xff)
	}
}

// TestLoose (W2): what is laid in other ways is read loosely as its tree, with notes just where it is not the form.
func TestLoose(t *testing.T) {
	d := made(t)
	dice := sample.Dice(2)
	read, noted := 0, 0
	for range 500 {
		v := dice.Tree(3)
		w := otherWay{Dice: &dice}
		w.item(v)
		if len(w.b) > 2000 {
			continue
		}
		says(t, d, lineOf("loose", hex(w.b), "1024"), append([]string{text(v)}, w.notes...)...)
		for _, b := range [][]byte{w.b, formOf(v), altered(&dice, w.b), altered(&dice, formOf(v))} {
			if len(b) > 2000 {
				continue
			}
			strict, loosely := does(t, d, lineOf("read", hex(b), "9")), does(t, d, lineOf("loose", hex(b), "9"))
			is := !strings.HasPrefix(strict[0], "fault")
			if is != (len(loosely) == 1 && !strings.HasPrefix(loosely[0], "fault")) || is && strict[0] != loosely[0] {
				t.Fatalf("%x: %q, loosely %q", b, strict, loosely)
			}
			if is {
				read++
			} else if len(loosely) > 1 {
				noted++
				says(t, d, "read "+does(t, d, "lay "+loosely[0])[0]+" 9", loosely[0])
			}
		}
	}
	if read < 300 || noted < 300 {
		t.Errorf("%d were read, %d with notes", read, noted)
	}
	for line, want := range map[string]string{
		"1c": "94 0", "7861": "92 0", "c1ff": "94 1", "01ff": "93 1", "f7": "95 0", "82f71c": "94 2", "a10102": "95 1", "a2616101616102": "95 4",
	} {
		want = strings.Replace(strings.Replace(strings.Replace(want, "94", "x", 1), "93", "94", 1), "x", "93", 1)
		says(t, d, "loose #"+line+" 9", "fault "+want)
	}
}

// typesOfTest: types of each kind.
func typesOfTest() []api.Type {
	return []api.Type{
		{Name: "pair", Kind: api.TypeStruct, Fields: []api.Field{{Name: "left", Key: "l", Of: api.Ref{Name: "int"}}, {Name: "right", Key: "r", Of: api.Ref{Name: "pair", Null: true}}}},
		{Name: "id", Kind: api.TypeName, Of: api.Ref{Name: "text"}},
		{Name: "both", Kind: api.TypeKinded, Cases: []api.Case{{Name: "id"}, {Name: "pair"}}},
		{Name: "point", Kind: api.TypeTuple, Fields: []api.Field{{Name: "x", Of: api.Ref{Name: "int"}}, {Name: "y", Of: api.Ref{Name: "float", Null: true}}, {Name: "z", Of: api.Ref{Name: "text"}, Maybe: true}}},
		{Name: "kind", Kind: api.TypeEnum, Words: []string{"ab", "c"}},
		{Name: "some", Kind: api.TypeList, Of: api.Ref{Name: "kind"}, Lo: 1, Hi: 2},
		{Name: "by", Kind: api.TypeMap, Of: api.Ref{Name: "any"}, Lo: 1, Hi: 9},
		{Name: "tag", Kind: api.TypeKeyed, Cases: []api.Case{{Key: "k", Name: "kind"}, {Key: "p", Name: "pair"}}},
		{Name: "small", Kind: api.TypeInt, Lo: -1, Hi: 2},
	}
}

// TestTypes (W3): what a head holds is of a type or not; what is, is written back as it was: a set of it changes nothing.
func TestTypes(t *testing.T) {
	table, e := schema.Open(typesOfTest())
	if e != api.OK {
		t.Fatal(e)
	}
	takes := map[string]string{
		"1": "any int small", "3": "any int", "-1": "any int small", "0.5": "any float single", "0.1": "any float", "null": "any null", "true": "any bool", "#00": "any bytes",
		`"c"`: "any text id both kind", `"x"`: "any text id both", `["c","ab"]`: "any some", `[]`: "any", `["c","x"]`: "any", named(lost("x")): "any link",
		`{"l":1,"r":{"l":2,"r":null}}`: "any pair both by", `{"l":1,"r":{"l":true,"r":null}}`: "any by", `{"l":1}`: "any by", `{}`: "any",
		`[1,null]`: "any point", `[1,2.5,"z"]`: "any point", `[1]`: "any", `[1,2]`: "any", `[1,2.5,"z",4]`: "any",
		`{"k":"c"}`: "any by tag", `{"k":"d"}`: "any by", `{"p":{"l":1,"r":null}}`: "any by tag", `{"k":"c","p":1}`: "any by",
	}
	d := made(t)
	for tree, names := range takes {
		says(t, d, "set 0 main k "+tree, `"main"`)
		v, _, _ := d.Depot(0).Get("main", []byte("k"))
		for _, name := range table.Names() {
			told, e, way := typed.Read(table, name, v)
			if is := slices.Contains(strings.Fields(names), name); is != (e == api.OK) || !is && e != api.ErrTypedShape {
				t.Errorf("%s by %s: %d", tree, name, e)
			}
			if e != api.OK {
				continue
			}
			back, e := typed.Write(table, name, told)
			if e != api.OK || way != nil {
				t.Fatalf("%s by %s: %d, %q", tree, name, e, way)
			}
			says(t, d, "set 0 main k "+text(back))
			b, e := typed.Encode(table, name, told)
			says(t, d, "lay "+tree, hex(b))
			again, f, _ := typed.Decode(table, name, octets(t, does(t, d, "lay "+tree)[0]), api.MaxDepth)
			if e != api.OK || f.Code != api.OK || fmt.Sprint(again) != fmt.Sprint(told) {
				t.Errorf("%s by %s: %d, %v, %v; want %v", tree, name, e, f, again, told)
			}
		}
		all(t, d, "drop 0 main")
	}
}

// TestNames (W4): a link by each of its texts is one link, of one row of bytes; unlike ones are two.
func TestNames(t *testing.T) {
	d := made(t)
	dice := sample.Dice(4)
	forms := map[string]string{}
	for range 200 {
		l := api.Link{Version: 1, Codec: dice.Next() >> (1 + dice.Below(63)), Hash: api.HashSha, Digest: strings.Repeat(string(rune('a'+dice.Below(3))), 32)}
		switch dice.Below(3) {
		case 0:
			l.Hash, l.Digest = api.HashNone, l.Digest[:dice.Below(33)]
		case 1:
			l.Version, l.Codec = 0, api.CodecOld
		}
		words := linkWords(t, l)
		form := does(t, d, "lay "+words[0])[0]
		for _, w := range words {
			says(t, d, "lay "+w, form)
			says(t, d, "read "+form+" 0", words[0])
			if l.Hash == api.HashSha {
				does(t, d, lineOf("force 0", w, "#00"))
			}
		}
		if other, is := forms[form]; is && other != words[0] {
			t.Errorf("%s is %s and %s", form, other, words[0])
		}
		forms[form] = words[0]
	}
	stand := 0
	for _, name := range forms {
		if linkOfText(t, name).Hash == api.HashSha {
			stand++
			says(t, d, "lose 0 "+name, "yes")
		}
	}
	says(t, d, "blocks 0", "0 0")
	if stand < 50 {
		t.Errorf("%d links", stand)
	}
}

// TestHandedOut (W4): bytes that a link does not hold are told by no line; with its own bytes again all is as it was.
func TestHandedOut(t *testing.T) {
	first := rich(t)
	lines := append(slices.DeleteFunc(askingLines(t, first), func(line string) bool { return strings.HasPrefix(line, "blocks") }), "check 0")
	for _, line := range []string{"copy 0 main 1 copied", "fetch 1 fetched 0 side 2"} {
		lines = append(lines, line, "drop 1 copied", "drop 1 fetched", "sweep 1")
	}
	var want []string
	for _, line := range lines {
		want = append(want, answer(first, line))
	}
	for i, l := range first.Depot(0).Store().Links() {
		d := rich(t)
		b, e := d.Depot(0).Store().Get(l)
		if e != api.OK {
			t.Fatal(e)
		}
		// Other bytes that might be told as well: a node, a commit, a column's part that is not this one's.
		other, _ := d.Depot(0).Store().Get(d.Depot(0).Store().Links()[(i+1)%d.Depot(0).Store().Len()])
		if e := d.Depot(0).Store().Force(l, other); e != api.OK {
			t.Fatal(e)
		}
		for j, line := range lines {
			got, e := d.Say(line)
			if e != api.ErrStoreBad && fmt.Sprintf("%q %d", got, e) != want[j] && !strings.HasPrefix(line, "drop") && line != "sweep 1" {
				t.Errorf("%s, with other bytes under %v: %q, %d; want %s", line, l, got, e, want[j])
			}
		}
		if len(b) < 2000 {
			does(t, d, lineOf("force 0", named(l), hex(b)))
		}
		if held(d.Depot(0)) != held(first.Depot(0)) {
			t.Errorf("%v: mended, the depot is another one", l)
		}
	}
}

// TestFloats (W15): a float's text is read as that float, bit by bit, and no decimal with fewer digits is; of samples likewise.
func TestFloats(t *testing.T) {
	d := made(t)
	dice := sample.Dice(15)
	significant := func(s string) int {
		s, _, _ = strings.Cut(strings.TrimPrefix(s, "-"), "e")
		s = strings.ReplaceAll(s, ".", "")
		return max(len(strings.Trim(s, "0")), 1)
	}
	for i := range 600 {
		bits := dice.Next()
		if i%3 == 0 {
			bits = math.Float64bits(float64(dice.Below(1e6)) / float64(1+dice.Below(1000)))
		}
		x := math.Float64frombits(bits)
		if math.IsNaN(x) || math.IsInf(x, 0) {
			continue
		}
		form := hex(formOf(sample.Float(bits)))
		s := does(t, d, "read "+form+" 0")[0]
		says(t, d, "lay "+s, form)
		says(t, d, "lay "+strconv.FormatFloat(x, 'e', 800, 64), form)
		shortest := strconv.FormatFloat(x, 'e', -1, 64)
		if significant(s) != significant(shortest) {
			t.Errorf("%s; by fewest digits %s", s, shortest)
		}
		says(t, d, "lay "+shortest, form)
	}
	for i := range 300 {
		x := math.Float32frombits(uint32(dice.Next()))
		if i%3 == 0 {
			x = float32(dice.Below(1e6)) / float32(1+dice.Below(1000))
		}
		if x != x || math.IsInf(float64(x), 0) {
			continue
		}
		all(t, d, "set 1 main none 1", "drop 1 main", "append 1 main row "+strconv.FormatFloat(float64(x), 'e', 120, 32))
		ends := strings.Fields(does(t, d, "ends 1 main row 0 1")[0])
		shortest := strconv.FormatFloat(float64(x), 'e', -1, 32)
		if ends[0] != ends[1] || significant(ends[0]) != significant(shortest) {
			t.Errorf("%q; by fewest digits %s", ends, shortest)
		}
		l, _ := d.Depot(1).Head("main")
		for _, s := range []string{ends[0], shortest} {
			all(t, d, "drop 1 main", "append 1 main row "+s)
			if again, _ := d.Depot(1).Head("main"); again != l {
				t.Errorf("%s is read as another sample", s)
			}
		}
		if i%50 == 0 {
			all(t, d, "drop 1 main", "sweep 1")
		}
	}
	if b, e := lay.Encode(sample.Float(1 << 63)); e != api.OK {
		t.Fatal(e)
	} else {
		says(t, d, "lay -0.0", hex(b))
		says(t, d, "read "+hex(b)+" 0", "-0.0")
	}
}
