package note

import (
	"fmt"
	"math"
	"reflect"
	"runtime"
	"strconv"
	"strings"
	"testing"
	"unicode/utf8"

	"trellis/api"
	"trellis/link"
	"trellis/number"
	"trellis/sample"
	"trellis/value"
)

// fault tells a fault.
func fault(code api.Errno, at int) api.Fault { return api.Fault{Code: code, At: at} }

// float tells a float by its number.
func float(x float64) api.Value { return sample.Float(math.Float64bits(x)) }

// below tells the whole number -1 - n.
func below(n uint64) api.Value { return api.Value{Kind: api.KindInt, Neg: true, N: n} }

// octets tells bytes.
func octets(s string) api.Value { return api.Value{Kind: api.KindBytes, Bytes: []byte(s)} }

// same tells whether two values are the same as they stand, nil and empty lists being one.
func same(a, b api.Value) bool { return reflect.DeepEqual(sample.Again(a), sample.Again(b)) }

// expect fails if Parse does not tell this tree, or this fault and nothing beside it.
func expect(t *testing.T, s string, depth int, v api.Value, f api.Fault) {
	t.Helper()
	w, g := Parse(s, depth)
	if g != f || !same(v, w) {
		t.Fatalf("P10.2: Parse(%q, %d): %+v, %+v; not %+v, %+v", s, depth, w, g, v, f)
	}
	if f == (api.Fault{}) && value.Check(w) != api.OK {
		t.Fatalf("P10.2: Parse(%q, %d): %+v is no tree", s, depth, w)
	}
}

// hold fails if Parse does not tell what the second reading tells. It tells what that is.
func hold(t *testing.T, s string, depth int) (api.Value, api.Fault) {
	t.Helper()
	v, f := parsePlain(s, depth)
	expect(t, s, depth, v, f)
	return v, f
}

// takes fails if a text is not read as this tree.
func takes(t *testing.T, s string, v api.Value) {
	t.Helper()
	expect(t, s, 9, v, api.Fault{})
	hold(t, s, 9)
}

// refuse fails if a text is not refused so.
func refuse(t *testing.T, s string, depth int, code api.Errno, at int) {
	t.Helper()
	expect(t, s, depth, api.Value{}, fault(code, at))
	hold(t, s, depth)
}

// prints fails if a tree's text is not this one, or is not read as that tree again.
func prints(t *testing.T, v api.Value, s string) {
	t.Helper()
	if text, e := Print(v); e != api.OK || text != s {
		t.Fatalf("P10.1: Print(%+v): %q, %d; not %q", v, text, e, s)
	}
	expect(t, s, value.Depth(v), value.Sorted(v), api.Fault{})
}

// TestExamples: the chapter's examples.
func TestExamples(t *testing.T) {
	prints(t, sample.Map("b aa a", sample.Whole(1), below(1), float(3)), `{"a":3.0,"b":1,"aa":-2}`)
	prints(t, octets("\x00\xff"), "#00ff")
	prints(t, octets(""), "#")
	prints(t, sample.Text("a\n\"\a"), `"a\n\"\u0007"`)
	s := ` [ 1 , 2.0,"\u00e9\ud83d\ude00" ,#,null ] `
	expect(t, s, 1, sample.List(sample.Whole(1), float(2), sample.Text("é😀"), octets(""), sample.Null()), api.Fault{})
	refuse(t, s, 0, api.ErrNoteDeep, 1)
	for _, c := range []struct {
		s    string
		code api.Errno
		at   int
	}{
		{"", api.ErrNoteText, 0}, {"[1,]", api.ErrNoteText, 3}, {"[1 2]", api.ErrNoteText, 3}, {`{"a" 1}`, api.ErrNoteText, 5}, {"{a:1}", api.ErrNoteText, 1}, {"nul", api.ErrNoteText, 0},
		{"#0", api.ErrNoteText, 0}, {"#0A", api.ErrNoteText, 0}, {`"\ud800"`, api.ErrNoteText, 0}, {"[1", api.ErrNoteText, 2}, {"01", api.ErrNoteText, 0}, {"&x", api.ErrNoteText, 0},
		{"18446744073709551616", api.ErrNoteNumber, 0}, {"-0", api.ErrNoteNumber, 0}, {"[1e400]", api.ErrNoteNumber, 1},
		{`{"a":1,"\u0061":2}`, api.ErrNoteKey, 7}, {"1 2", api.ErrNoteLeft, 2},
	} {
		refuse(t, c.s, 9, c.code, c.at)
	}
	takes(t, "-18446744073709551616", below(1<<64-1))
	takes(t, "-0.0", sample.Float(1<<63))
}

// TestPrint: P10.1: each kind by itself, within lists and maps, in keys' order at each depth.
func TestPrint(t *testing.T) {
	for _, c := range []struct {
		v api.Value
		s string
	}{
		{sample.Null(), "null"}, {api.Value{Kind: api.KindBool}, "false"}, {api.Value{Kind: api.KindBool, Flag: true}, "true"},
		{sample.Whole(0), "0"}, {sample.Whole(10), "10"}, {sample.Whole(1 << 63), "9223372036854775808"}, {sample.Whole(1<<64 - 1), "18446744073709551615"},
		{below(0), "-1"}, {below(9), "-10"}, {below(1<<63 - 1), "-9223372036854775808"}, {below(1 << 63), "-9223372036854775809"}, {below(1<<64 - 2), "-18446744073709551615"}, {below(1<<64 - 1), "-18446744073709551616"},
		{float(0), "0.0"}, {sample.Float(1 << 63), "-0.0"}, {float(100), "100.0"}, {float(1e21), "1e21"}, {float(-1e-7), "-1e-7"}, {float(math.MaxFloat64), "1.7976931348623157e308"}, {sample.Float(1), "5e-324"},
		{octets("\x01\x23\xab\xcd\xef\x0a"), "#0123abcdef0a"}, {sample.Link("hi"), "&bafkqaatine"},
		{sample.Text(""), `""`}, {sample.Text("\x00\b\t\n\v\f\r\x1b\x1f !\"#/\\\x7f"), `"\u0000\u0008\t\n\u000b\u000c\r\u001b\u001f !\"#/\\` + "\x7f\""},
		{sample.Text("\u0080\u00a0\u2028\ufffd\ufeff\U0010ffff"), "\"\u0080\u00a0\u2028\ufffd\ufeff\U0010ffff\""}, {sample.Text(`\u0041`), `"\\u0041"`},
		{sample.List(), "[]"}, {sample.Map(""), "{}"}, {sample.List(sample.List(), sample.Map("")), "[[],{}]"}, {sample.List(sample.Null(), sample.Whole(1), sample.Text(",")), `[null,1,","]`},
		{sample.Map("bb b a ab ä c", sample.Null(), sample.Map("z y", sample.Whole(1), sample.List(sample.Map("d c", sample.Null(), sample.Null()))), sample.Whole(2), sample.Whole(3), sample.Whole(4), sample.Whole(5)), `{"a":2,"b":{"y":[{"c":null,"d":null}],"z":1},"c":5,"ab":3,"bb":null,"ä":4}`},
		{api.Value{Kind: api.KindMap, Keys: []string{"\n\"", "", "\x01"}, Items: []api.Value{sample.Null(), sample.Null(), sample.Null()}}, `{"":null,"\u0001":null,"\n\"":null}`},
	} {
		prints(t, c.v, c.s)
		prints(t, sample.List(c.v, c.v), "["+c.s+","+c.s+"]")
		prints(t, sample.Map("k", c.v), `{"k":`+c.s+"}")
	}
	old := api.Value{Kind: api.KindLink, Link: api.Link{Codec: api.CodecOld, Hash: api.HashSha, Digest: "\xe3\xb0\xc4\x42\x98\xfc\x1c\x14\x9a\xfb\xf4\xc8\x99\x6f\xb9\x24\x27\xae\x41\xe4\x64\x9b\x93\x4c\xa4\x95\x99\x1b\x78\x52\xb8\x55"}}
	prints(t, old, "&QmdfTbBqBPQ7VNxZEYEj14VmRuZBkqFbiwReogJgS1zR1n")
}

// TestPrintRefuses: P10.1: value.Check's error, and nothing beside it.
func TestPrintRefuses(t *testing.T) {
	d := sample.Dice(100)
	met := map[api.Errno]int{}
	for range 20000 {
		v := d.Touched(d.Tree(3))
		want := value.Check(v)
		met[want]++
		s, e := Print(v)
		if e != want || e != api.OK && s != "" || e == api.OK && s != printPlain(v) {
			t.Fatalf("P10.1: Print(%+v): %q, %d; not %d", v, s, e, want)
		}
	}
	for _, code := range []api.Errno{api.OK, api.ErrValueKind, api.ErrValueFloat, api.ErrValueText, api.ErrValueLink, api.ErrValueKeys} {
		if met[code] < 100 {
			t.Errorf("%d was told %d times alone", code, met[code])
		}
	}
	for _, how := range []string{"l", "m", "lm"} {
		if s, e := Print(sample.Within(sample.List(), 1024, how)); e != api.ErrValueDeep || s != "" {
			t.Errorf("P10.1: 1025 deep: %q, %d", s, e)
		}
		prints(t, sample.Within(sample.List(), 1023, how), printPlain(sample.Within(sample.List(), 1023, how)))
	}
}

// TestRows: P10.2: of a token the first row that applies, whatever those below it say; of all tokens the first; each at its first byte.
func TestRows(t *testing.T) {
	for _, c := range []struct {
		s     string
		depth int
		code  api.Errno
		at    int
	}{
		// a depth that is none, ahead of all
		{"", -1, api.ErrNoteDepth, 0}, {" [x", 1025, api.ErrNoteDepth, 0}, {"1", -1 << 63, api.ErrNoteDepth, 0}, {"1 2", 1<<63 - 1, api.ErrNoteDepth, 0},
		// too deep, where an item is wanted
		{"[", 0, api.ErrNoteDeep, 0}, {"\t{", 0, api.ErrNoteDeep, 1}, {"[ [", 1, api.ErrNoteDeep, 2}, {"[1,{", 1, api.ErrNoteDeep, 3}, {`{"a":[`, 1, api.ErrNoteDeep, 5}, {`{"a" : {}}`, 1, api.ErrNoteDeep, 7},
		{"[[],[[", 2, api.ErrNoteDeep, 5}, {`[{},{"a":{}}]`, 2, api.ErrNoteDeep, 9}, {"[[]]x", 1, api.ErrNoteDeep, 1},
		// and not where none is
		{"{[", 1, api.ErrNoteText, 1}, {"{{", 1, api.ErrNoteText, 1}, {"[1[", 1, api.ErrNoteText, 2}, {`{"a"[`, 1, api.ErrNoteText, 4}, {`{"a":1{`, 1, api.ErrNoteText, 6}, {`{"a":1,[`, 1, api.ErrNoteText, 7}, {"1[", 0, api.ErrNoteLeft, 1}, {"[]{", 1, api.ErrNoteLeft, 2},
		// there is none
		{" \n", 9, api.ErrNoteText, 2}, {"[", 9, api.ErrNoteText, 1}, {"[ ", 9, api.ErrNoteText, 2}, {"{", 9, api.ErrNoteText, 1}, {"[1, ", 9, api.ErrNoteText, 4}, {`{"a"`, 9, api.ErrNoteText, 4}, {`{"a":`, 9, api.ErrNoteText, 5}, {`{"a":1`, 9, api.ErrNoteText, 6},
		{`{"a":1,`, 9, api.ErrNoteText, 7}, {"[[]", 9, api.ErrNoteText, 3}, {"[{}", 9, api.ErrNoteText, 3}, {`{"a":[]`, 9, api.ErrNoteText, 7},
		// marks that may not stand there
		{"]", 9, api.ErrNoteText, 0}, {"}", 9, api.ErrNoteText, 0}, {",", 9, api.ErrNoteText, 0}, {":", 9, api.ErrNoteText, 0}, {"[,", 9, api.ErrNoteText, 1}, {"[:", 9, api.ErrNoteText, 1}, {"[}", 9, api.ErrNoteText, 1}, {"[1}", 9, api.ErrNoteText, 2}, {"[1:2]", 9, api.ErrNoteText, 2},
		{"[1,,2]", 9, api.ErrNoteText, 3}, {"[1,:", 9, api.ErrNoteText, 3}, {"{]", 9, api.ErrNoteText, 1}, {"{,", 9, api.ErrNoteText, 1}, {"{:", 9, api.ErrNoteText, 1}, {`{"a":1]`, 9, api.ErrNoteText, 6}, {`{"a":1,}`, 9, api.ErrNoteText, 7}, {`{"a":1,,`, 9, api.ErrNoteText, 7},
		{`{"a"::1}`, 9, api.ErrNoteText, 5}, {`{"a":}`, 9, api.ErrNoteText, 5}, {`{"a":,`, 9, api.ErrNoteText, 5}, {`{"a",`, 9, api.ErrNoteText, 4}, {`{"a"}`, 9, api.ErrNoteText, 4}, {`{"a":1:`, 9, api.ErrNoteText, 6}, {`{"a":1"b":2}`, 9, api.ErrNoteText, 6}, {`["a""b"]`, 9, api.ErrNoteText, 4},
		// words and texts that may not stand there, ahead of what their numbers and keys are
		{"{1:2}", 9, api.ErrNoteText, 1}, {"{-0:2}", 9, api.ErrNoteText, 1}, {"{null:2}", 9, api.ErrNoteText, 1}, {`{"a" -0}`, 9, api.ErrNoteText, 5}, {`{"a":1 "a":2}`, 9, api.ErrNoteText, 7}, {`{"a" "a":2}`, 9, api.ErrNoteText, 5}, {`{"a":1,a:2}`, 9, api.ErrNoteText, 7},
		{"[1 -0]", 9, api.ErrNoteText, 3}, {"[1 1e400]", 9, api.ErrNoteText, 3}, {"[1 x]", 9, api.ErrNoteText, 3}, {`[1"a]`, 9, api.ErrNoteText, 2}, {`{"a"x`, 9, api.ErrNoteText, 4}, {`{"a":1x}`, 9, api.ErrNoteText, 5},
		// numbers
		{"[-0 x", 9, api.ErrNoteNumber, 1}, {`{"a":-0`, 9, api.ErrNoteNumber, 5}, {"-0[", 0, api.ErrNoteNumber, 0}, {"-1e309", 9, api.ErrNoteNumber, 0}, {"1e400x", 9, api.ErrNoteText, 0}, {"-00", 9, api.ErrNoteText, 0},
		// keys
		{`{"a":1,"a"`, 9, api.ErrNoteKey, 7}, {`{"a":1,"a`, 9, api.ErrNoteText, 7}, {`{"a":[{"a":1}],"b":{"a":1,"b":2},  "b":-0}`, 9, api.ErrNoteKey, 35}, {`{"":1,"":1}`, 9, api.ErrNoteKey, 6}, {`{"a":1,"b":1,"c":1,"a":x}`, 9, api.ErrNoteKey, 19}, {`{"a":1,"a\x":1}`, 9, api.ErrNoteText, 7},
		{`{"\ud83d\ude00":1,"😀":1}`, 9, api.ErrNoteKey, 18}, {`{"/":1,"\/":1}`, 9, api.ErrNoteKey, 7}, {`{"\n":1,"\u000A":1}`, 9, api.ErrNoteKey, 8}, {`[{"a":1},{"a":1,"a":1}]`, 9, api.ErrNoteKey, 16},
		// what is left, whatever it is
		{"1 ]", 9, api.ErrNoteLeft, 2}, {"null,", 9, api.ErrNoteLeft, 4}, {"[]]", 9, api.ErrNoteLeft, 2}, {"{}:", 9, api.ErrNoteLeft, 2}, {`"a""`, 9, api.ErrNoteLeft, 3}, {`1"\x`, 9, api.ErrNoteLeft, 1}, {"1 -0", 9, api.ErrNoteLeft, 2}, {"1 \xff", 9, api.ErrNoteLeft, 2}, {"[] \n\x00", 9, api.ErrNoteLeft, 4}, {`""x`, 9, api.ErrNoteLeft, 2}, {"#00{", 9, api.ErrNoteLeft, 3},
	} {
		refuse(t, c.s, c.depth, c.code, c.at)
	}
}

// TestOrder: P10.2: a map's entries stay in the order in which they stand, at each depth.
func TestOrder(t *testing.T) {
	one, two := sample.Whole(1), sample.Whole(2)
	takes(t, `{"b":1,"a":2}`, sample.Map("b a", one, two))
	takes(t, `{"aa":1,"a":{"z":2,"y":1},"b":2}`, sample.Map("aa a b", one, sample.Map("z y", two, one), two))
	takes(t, `{"a":{"a":{"a":1}}}`, sample.Map("a", sample.Map("a", sample.Map("a", one))))
	takes(t, `{"a":1,"A":2,"ä":1}`, sample.Map("a A ä", one, two, one))
	takes(t, `{"\u00e4":1,"a\u0308":2}`, sample.Map("\u00e4 a\u0308", one, two)) // they look alike, and are not
	takes(t, `{"a":"a","":":"}`, api.Value{Kind: api.KindMap, Keys: []string{"a", ""}, Items: []api.Value{sample.Text("a"), sample.Text(":")}})
}

// TestBlanks: P10.2: the four blanks about each token, and none; nothing else is one, nor do they stand in a word.
func TestBlanks(t *testing.T) {
	tokens := strings.Fields(`{ "a" : [ 1 , -2.5 , { } , [ ] , "bc" , null ] , "b" : #00 , "c" : &bafkqaatine }`)
	want, f := Parse(strings.Join(tokens, ""), 3)
	if f != (api.Fault{}) {
		t.Fatalf("P10.2: %+v", f)
	}
	all := []string{" ", "\t", "\n", "\r", "\r\n\t  "}
	for _, b := range all {
		takes(t, b+strings.Join(tokens, b)+b, want)
		for i := range len(tokens) + 1 {
			takes(t, strings.Join(tokens[:i], "")+b+strings.Join(tokens[i:], ""), want)
		}
		for _, word := range []string{"null", "true", "-1", "1.5", "1e5", "#0011", "&bafkqaatine"} {
			for i := 1; i < len(word); i++ {
				v, f := hold(t, word[:i]+b+word[i:], 9)
				if f == (api.Fault{}) {
					t.Errorf("P10.2: %q with %q at %d: %+v", word, b, i, v)
				}
			}
		}
		if b != " " { // within a text it is a code point, and below 32 there it is none
			refuse(t, `"a`+b+`"`, 9, api.ErrNoteText, 0)
		}
	}
	takes(t, `" a "`, sample.Text(" a "))
	for c := range rune(0x3100) {
		b := string(c)
		if strings.ContainsAny("\t\n\r \"[]{},:", b) {
			continue
		}
		if (c < '0' || c > '9') && c != '-' {
			refuse(t, "[1,"+b+"2]", 9, api.ErrNoteText, 3)
			refuse(t, "1"+b, 9, api.ErrNoteText, 0)
		}
		expect(t, `"a"`+b, 9, api.Value{}, fault(api.ErrNoteLeft, 3))
		expect(t, b, 9, digitOr(c), codeOr(c))
	}
}

// digitOr and codeOr tell what a word of one code point is.
func digitOr(c rune) api.Value {
	switch {
	case c >= '0' && c <= '9':
		return sample.Whole(uint64(c - '0'))
	case c == '#':
		return octets("")
	}
	return api.Value{}
}

func codeOr(c rune) api.Fault {
	if digitOr(c).Kind == 0 {
		return fault(api.ErrNoteText, 0)
	}
	return api.Fault{}
}

// TestLetters: P10.2: each byte that may stand behind \, and all others.
func TestLetters(t *testing.T) {
	stand := map[byte]string{'"': `"`, '\\': `\`, '/': "/", 'b': "\b", 'f': "\f", 'n': "\n", 'r': "\r", 't': "\t"}
	for c := range 256 {
		s := `"a\` + string([]byte{byte(c)}) + `z"`
		if text, ok := stand[byte(c)]; ok {
			takes(t, s, sample.Text("a"+text+"z"))
		} else {
			refuse(t, "["+s+"]", 9, api.ErrNoteText, 1)
		}
		hold(t, `"\`+string([]byte{byte(c)}), 9)
		hold(t, `"\`+string([]byte{byte(c)})+`"`, 9)
		hold(t, `"\\\`+string([]byte{byte(c)})+`"`, 9)
	}
	refuse(t, `"\é"`, 9, api.ErrNoteText, 0)
	refuse(t, `"\`, 9, api.ErrNoteText, 0)
	refuse(t, `"\"`, 9, api.ErrNoteText, 0)
	refuse(t, `"\\\"`, 9, api.ErrNoteText, 0)
	takes(t, `"\\"`, sample.Text(`\`))
	takes(t, `"\\\\"`, sample.Text(`\\`))
	takes(t, `"\"\""`, sample.Text(`""`))
	takes(t, `"\\u0041"`, sample.Text(`\u0041`))
	takes(t, `"\u005cu0041\u0022"`, sample.Text(`\u0041"`))
}

// TestUnits: P10.2: all numbers of four digits by \u, in either case, and halves of two.
func TestUnits(t *testing.T) {
	for c := range rune(1 << 16) {
		for _, form := range []string{`"a\u%04xz"`, `"a\u%04Xz"`} {
			s := fmt.Sprintf(form, c)
			if c >= 0xd800 && c <= 0xdfff {
				expect(t, s, 0, api.Value{}, fault(api.ErrNoteText, 0))
			} else {
				expect(t, s, 0, sample.Text("a"+string(c)+"z"), api.Fault{})
			}
		}
	}
	first, second := []rune{0xd800, 0xd801, 0xd83d, 0xdbfe, 0xdbff}, []rune{0xdc00, 0xdc01, 0xde00, 0xdffe, 0xdfff}
	for _, a := range first {
		for _, b := range second {
			c := 0x10000 + (a-0xd800)*0x400 + (b - 0xdc00)
			for _, form := range []string{`"\u%04x\u%04x"`, `"\u%04X\u%04x"`, `"\u%04x\u%04X"`} {
				takes(t, fmt.Sprintf(form, a, b), sample.Text(string(c)))
				refuse(t, fmt.Sprintf(form, b, a), 9, api.ErrNoteText, 0)
				refuse(t, fmt.Sprintf(form, a, a), 9, api.ErrNoteText, 0)
				refuse(t, fmt.Sprintf(form, b, b), 9, api.ErrNoteText, 0)
			}
			takes(t, fmt.Sprintf(`"\u%04x\u%04x\u0041\u%04x\u%04xz"`, a, b, a, b), sample.Text(string([]rune{c, 'A', c, 'z'})))
			refuse(t, fmt.Sprintf(`"\u%04x\u%04x\u%04x"`, a, a, b), 9, api.ErrNoteText, 0)
			refuse(t, fmt.Sprintf(`"\u%04x\u%04x\u%04x"`, a, b, b), 9, api.ErrNoteText, 0)
			refuse(t, fmt.Sprintf(`"\u%04x\u%04x\u%04x"`, b, a, b), 9, api.ErrNoteText, 0)
			for _, between := range []string{"a", `\n`, `\\`, `\"`, " ", "\x01", `\u0041`, `\`, `\u`, "\xff", "é", `\ud7ff`, `\ue000`, `\uffff`} {
				refuse(t, fmt.Sprintf(`"\u%04x%s\u%04x"`, a, between, b), 9, api.ErrNoteText, 0)
				refuse(t, fmt.Sprintf(`"\u%04x%s"`, a, between), 9, api.ErrNoteText, 0)
				refuse(t, fmt.Sprintf(`"\u%04x%s"`, b, between), 9, api.ErrNoteText, 0)
			}
			refuse(t, fmt.Sprintf(`"\u%04x`, a), 9, api.ErrNoteText, 0)
			refuse(t, fmt.Sprintf(`"\u%04x\u%04x`, a, b), 9, api.ErrNoteText, 0)
			refuse(t, fmt.Sprintf(`"\u%04x\u%.3x"`, a, b>>4), 9, api.ErrNoteText, 0)
			refuse(t, fmt.Sprintf(`"\u%04x\%04x"`, a, b), 9, api.ErrNoteText, 0)
			refuse(t, fmt.Sprintf(`"\u%04xu%04x"`, a, b), 9, api.ErrNoteText, 0)
			refuse(t, fmt.Sprintf(`"\u%04x\U%04x"`, a, b), 9, api.ErrNoteText, 0)
		}
	}
	for _, s := range []string{`\u`, `\u0`, `\u00`, `\u004`, `\u 041`, `\u+041`, `\u-041`, `\u0x41`, `\u004g`, `\u004G`, "\\u004\u0661", `\u{41}`, `\U0041`, `\x41`, `\u00_1`, `\u004/`, `\u004:`, `\u004@`, "\\u004`", "\\u00\xff1"} {
		refuse(t, `["`+s+`"]`, 9, api.ErrNoteText, 1)
		refuse(t, `["`+s, 9, api.ErrNoteText, 1)
		refuse(t, `["`+s+`\u0041"]`, 9, api.ErrNoteText, 1)
	}
	takes(t, `"\u00411"`, sample.Text("A1"))
	takes(t, `"\u00e9\u00E9\u00aB"`, sample.Text("éé«"))
	takes(t, `"\u0000\uffff\ufffd\ufeff"`, sample.Text("\x00\uffff\ufffd\ufeff"))
}

// TestCodePoints: P10.1, P10.2: each code point as it stands, and as it is printed.
func TestCodePoints(t *testing.T) {
	for c := range rune(utf8.MaxRune + 1) {
		if !utf8.ValidRune(c) {
			continue
		}
		s := `"` + string(c) + `"`
		v, f := Parse(s, 0)
		bare := c >= 32 && c != '"' && c != '\\'
		if bare != (f == api.Fault{}) || bare && v.Text != string(c) || !bare && f.Code != api.ErrNoteText && c != '"' {
			t.Fatalf("P10.2: Parse(%q): %+v, %+v", s, v, f)
		}
		text, e := Print(sample.Text(string(c)))
		if e != api.OK || bare && text != s || !bare && text != quotedPlain(string(c)) {
			t.Fatalf("P10.1: Print of %q: %q, %d", c, text, e)
		}
		if w, f := Parse(text, 0); f != (api.Fault{}) || w.Text != string(c) {
			t.Fatalf("P10.3: Parse(%q): %+v, %+v", text, w, f)
		}
	}
	refuse(t, `"""`, 9, api.ErrNoteLeft, 2)
}

// TestBadBytes: P10.2: bytes that are no good UTF-8, in texts, keys and words.
func TestBadBytes(t *testing.T) {
	for i := range 1 << 16 {
		s := string([]byte{byte(i >> 8), byte(i)})
		hold(t, `"`+s+`"`, 0)
		if !utf8.ValidString(s) && !strings.ContainsAny(s, "\"\\") {
			expect(t, `["`+s+`"]`, 1, api.Value{}, fault(api.ErrNoteText, 1))
			expect(t, `{"`+s+`":1}`, 1, api.Value{}, fault(api.ErrNoteText, 1))
		}
	}
	for _, s := range []string{"\xed\xa0\x80", "\xed\xbf\xbf", "\xed\xa0\xbd\xed\xb8\x80", "\xc0\x80", "\xc1\xbf", "\xe0\x80\x80", "\xe0\x9f\xbf", "\xf0\x80\x80\x80", "\xf0\x8f\xbf\xbf", "\xf4\x90\x80\x80", "\xf5\x80\x80\x80", "\xff", "\xfe", "\x80", "\xe2\x82", "\xf0\x9f\x98", "\xef\xbf", "\xef\xbf\xbe\xbf", "\xef\xbf\xbd\xbd"} {
		refuse(t, `"`+s+`"`, 9, api.ErrNoteText, 0)
		refuse(t, `"\ufffd`+s+`"`, 9, api.ErrNoteText, 0)
		refuse(t, "\"\ufffd"+s+"\ufffd\"", 9, api.ErrNoteText, 0)
		refuse(t, `"`+s, 9, api.ErrNoteText, 0)
		refuse(t, `{"a":1,"`+s+`":1}`, 9, api.ErrNoteText, 7)
		refuse(t, `{"`+s+`":1}`, 9, api.ErrNoteText, 1)
		for _, word := range []string{"", "null", "1", "#00", "&bafkqaatine"} {
			refuse(t, "["+word+s+"]", 9, api.ErrNoteText, 1)
			refuse(t, "["+s+word+"]", 9, api.ErrNoteText, 1)
		}
		refuse(t, "1 "+s, 9, api.ErrNoteLeft, 2)
		refuse(t, "1"+s, 9, api.ErrNoteText, 0)
	}
	takes(t, "\"\ufffd\"", sample.Text("\ufffd"))
	takes(t, "[\"\ufffd\ufffd\"]", sample.List(sample.Text("\ufffd\ufffd")))
}

// TestWords: P10.2: words, those that begin as others do, and where one ends.
func TestWords(t *testing.T) {
	words := []string{"null", "false", "true", "0", "-1", "1.5", "1e5", "#", "#00ff", "&bafkqaatine"}
	for _, w := range words {
		v, f := hold(t, w, 0)
		if f != (api.Fault{}) {
			t.Fatalf("P10.2: %q: %+v", w, f)
		}
		for i := range w {
			hold(t, w[:i], 0)
			hold(t, w[i:], 0)
			hold(t, "["+w[:i]+"]", 1)
			hold(t, w[:i]+strings.ToUpper(w[i:i+1])+w[i+1:], 0)
		}
		for c := range 256 {
			one := string([]byte{byte(c)})
			for _, s := range []string{w + one, one + w, w + one + w, "[" + w + one + "]", "[" + one + w + "]"} {
				hold(t, s, 1)
			}
		}
		for _, other := range words {
			hold(t, w+other, 0)
			hold(t, `{"`+w+`":`+w+`,"x":`+other+"}", 1)
		}
		takes(t, "["+w+`,"",`+w+"]", sample.List(v, sample.Text(""), v))
	}
	for _, w := range []string{"Null", "NULL", "nulll", "nil", "True", "truefalse", "inf", "-inf", "nan", "NaN", "Infinity", "undefined", "'a'", "a", "/", "//", "(1)", "1;", "$", "\x00", "\x7f", "&", "&&bafkqaatine", "##", "#&", "&#", "#null", "\\n", "\\u0031", "-", "+", ".", "e", "+1", "--1", "1-", "0x1", "1_0", "1d", "１"} {
		refuse(t, w, 9, api.ErrNoteText, 0)
		refuse(t, "[ "+w+" ]", 9, api.ErrNoteText, 2)
		refuse(t, "{"+w+":1}", 9, api.ErrNoteText, 1)
	}
}

// rows calls with all rows of at most so many of some texts.
func rows(some []string, n int, call func(string)) {
	var next func(s string, n int)
	next = func(s string, n int) {
		call(s)
		for i := 0; n > 0 && i < len(some); i++ {
			next(s+some[i], n-1)
		}
	}
	next("", n)
}

// TestShortWords: P10.2: all short words of the letters of numbers, of bytes and of texts.
func TestShortWords(t *testing.T) {
	rows(strings.Split("-01.eE+9", ""), 5, func(s string) { hold(t, s, 0) })
	rows(strings.Split("#09afAFg&", ""), 4, func(s string) { hold(t, s, 0) })
	rows([]string{`"`, `\`, "u", "0041", "d83d", "DE00", "n", "\x1f"}, 5, func(s string) { hold(t, `"`+s, 0) })
}

// TestShortTexts: P10.2: all rows of few tokens, good or not.
func TestShortTexts(t *testing.T) {
	met := map[api.Errno]int{}
	rows([]string{"[", "]", "{", "}", ",", ":", `"a"`, "1 "}, 6, func(s string) {
		_, f := hold(t, s, 2)
		met[f.Code]++
	})
	rows([]string{"[", "]", "{", "}", ",", `"a":`, ` "\u0061"`, `"b":`, "-0 ", "x "}, 5, func(s string) {
		_, f := hold(t, s, 3)
		met[f.Code]++
		if s != "" {
			hold(t, `{"a":1,`+s, 2)
		}
	})
	for _, code := range []api.Errno{api.OK, api.ErrNoteDeep, api.ErrNoteText, api.ErrNoteNumber, api.ErrNoteLeft} {
		if met[code] < 30 {
			t.Errorf("%d was told %d times alone", code, met[code])
		}
	}
}

// TestBytes: P10.2: bytes of each length by digits of base 16, and what is none.
func TestBytes(t *testing.T) {
	for i := range 1 << 16 {
		hold(t, "#"+string([]byte{byte(i >> 8), byte(i)}), 0)
	}
	for n := range 300 {
		b := strings.Repeat("\xa5", n)
		takes(t, "#"+strings.Repeat("a5", n), octets(b))
		refuse(t, "["+"#"+strings.Repeat("a5", n)+"a]", 9, api.ErrNoteText, 1)
		refuse(t, "#"+strings.Repeat("a5", n)+"A5", 9, api.ErrNoteText, 0)
		refuse(t, "#"+strings.Repeat("a5", n)+"#", 9, api.ErrNoteText, 0)
	}
	for _, s := range []string{"#é", "#éé", "#0\u0660", "#0x", "#0g", "#g0", "#0/", "#0`", "#00 00", "# 00", "#-1", "#0é", "#0\xff", "#aB", "#Fa"} {
		if _, f := hold(t, s, 9); f.Code != api.ErrNoteText && f.Code != api.ErrNoteLeft {
			t.Errorf("P10.2: %q: %+v", s, f)
		}
	}
}

// TestLinks: P10.2: links in each base, and what none may be.
func TestLinks(t *testing.T) {
	d := sample.Dice(101)
	for _, v := range sample.Leaves() {
		if v.Kind != api.KindLink {
			continue
		}
		text, _ := link.Text(v.Link)
		prints(t, v, "&"+text)
		texts := []string{text}
		for _, base := range []int{api.Base16, api.Base32, api.Base58} {
			if s, e := link.TextIn(v.Link, base); e == api.OK {
				texts = append(texts, s)
			}
		}
		for _, s := range texts {
			takes(t, "&"+s, v)
			takes(t, "[&"+s+",&"+s+"]", sample.List(v, v))
			refuse(t, s, 9, api.ErrNoteText, 0)
			refuse(t, "& "+s, 9, api.ErrNoteText, 0)
			refuse(t, "[&"+s+"&"+s+"]", 9, api.ErrNoteText, 1)
			refuse(t, `&"`+s+`"`, 9, api.ErrNoteText, 0)
			for i := range s {
				for range 4 {
					hold(t, "&"+s[:i]+string([]byte{byte(d.Next())})+s[i+1:], 0)
					hold(t, "&"+s[:i]+string("Qfbz0189AFaf"[d.Below(12)])+s[i:], 0)
				}
				hold(t, "&"+s[:i], 0)
				hold(t, "&"+s[i:], 0)
			}
		}
	}
	digest := strings.Repeat("00", 32)
	for _, s := range []string{"", "f", "b", "z", "Q", "f00550000", "f02550000", "f01551300", "f015512" + digest, "f1220" + digest, "f0155122" + digest, "f01550041" + strings.Repeat("00", 65), "f0155000000", "F01550000", "f0155000A00", "f" + strings.Repeat("0", 1000)} {
		refuse(t, "&"+s, 9, api.ErrNoteText, 0)
	}
	takes(t, "&f01550000", sample.Link(""))
	takes(t, "&f01550040"+strings.Repeat("61", 64), sample.Link(strings.Repeat("a", 64)))
}

// TestWholes: P10.2: whole numbers about the ends of 64 bits, and of any length.
func TestWholes(t *testing.T) {
	for _, n := range []uint64{0, 1, 9, 10, 99, 1<<31 - 1, 1 << 32, 1<<53 + 1, 1<<63 - 1, 1 << 63, 1<<64 - 2, 1<<64 - 1} {
		s := strconv.FormatUint(n, 10)
		takes(t, s, sample.Whole(n))
		if n > 0 {
			takes(t, "-"+s, below(n-1))
		}
		refuse(t, "0"+s, 9, api.ErrNoteText, 0)
		refuse(t, "-0"+s, 9, api.ErrNoteText, 0)
		refuse(t, "+"+s, 9, api.ErrNoteText, 0)
		takes(t, s+".0", float(float64(n)))
		takes(t, s+"e0", float(float64(n)))
		takes(t, s+"E0", float(float64(n)))
		takes(t, "-"+s+".0", float(math.Copysign(float64(n), -1)))
	}
	for _, s := range []string{"18446744073709551616", "18446744073709551617", "18446744073709551620", "20000000000000000000", "99999999999999999999", "100000000000000000000", "36893488147419103232", "-18446744073709551617", "-18446744073709551618", "-20000000000000000000", "-99999999999999999999", "-100000000000000000000", "-36893488147419103232", "-0"} {
		refuse(t, s, 9, api.ErrNoteNumber, 0)
		refuse(t, "[1, "+s+"]", 9, api.ErrNoteNumber, 4)
		refuse(t, `{"a":`+s+"x}", 9, api.ErrNoteText, 5)
		x, _ := strconv.ParseFloat(s, 64)
		takes(t, s+".0", float(x))
		takes(t, s+"e-0", float(x))
	}
	for n := 20; n < 500; n += 7 {
		for _, digit := range []string{"1", "9"} {
			s := digit + strings.Repeat("0", n)
			refuse(t, s, 9, api.ErrNoteNumber, 0)
			refuse(t, "-"+s, 9, api.ErrNoteNumber, 0)
		}
	}
	for _, s := range []string{"1" + strings.Repeat("0", 1<<20), "-" + strings.Repeat("9", 1<<20)} {
		expect(t, s, 0, api.Value{}, fault(api.ErrNoteNumber, 0))
		expect(t, "["+s+"x]", 1, api.Value{}, fault(api.ErrNoteText, 1))
		expect(t, "0"+s, 1, api.Value{}, fault(api.ErrNoteText, 0))
	}
}

// TestDecimals: P10.2: floats by decimals of any length and any exponent.
func TestDecimals(t *testing.T) {
	many, zeros := strings.Repeat("9", 1<<20), strings.Repeat("0", 1<<20)
	for _, c := range []struct {
		s string
		x float64
	}{
		{"0.0", 0}, {"0e0", 0}, {"0E+5", 0}, {"0.5", 0.5}, {"1e0", 1}, {"1E5", 1e5}, {"1e+5", 1e5}, {"10e-1", 1}, {"1.0e1", 10}, {"1e-400", 0}, {"1.7976931348623158e308", math.MaxFloat64}, {"4.9e-324", 5e-324}, {"2e-324", 0}, {"3e-324", 5e-324},
		{"9007199254740993.0", 9007199254740992}, {"9007199254740993.0000000001", 9007199254740994}, {"0e" + many, 0}, {"0." + zeros + "e" + many, 0}, {"1e-" + many, 0}, {"1e" + zeros, 1}, {"1e-" + zeros + "1", 0.1},
		{"0." + zeros + "1", 0}, {"0." + zeros + "1e1048577", 1}, {"1" + zeros + "e-1048576", 1}, {"1." + zeros, 1}, {"1." + zeros + "1", 1}, {"0." + many, 1},
	} {
		expect(t, c.s, 0, float(c.x), api.Fault{})
		expect(t, "-"+c.s, 0, float(math.Copysign(c.x, -1)), api.Fault{})
		expect(t, "["+c.s+","+c.s+"]", 1, sample.List(float(c.x), float(c.x)), api.Fault{})
		if len(c.s) < 100 {
			hold(t, c.s, 0)
		}
	}
	for _, s := range []string{"1e309", "1e400", "1.7976931348623159e308", "1e" + many, "1e+" + many, many + ".0", many + "e0", "0." + zeros + "1e" + many, "1" + zeros + "e-1048267"} {
		expect(t, s, 0, api.Value{}, fault(api.ErrNoteNumber, 0))
		expect(t, "[ -"+s+"]", 1, api.Value{}, fault(api.ErrNoteNumber, 2))
		expect(t, "[ "+s+"x]", 1, api.Value{}, fault(api.ErrNoteText, 2))
	}
	for _, s := range []string{"1.", ".5", "-.5", "1e", "1e+", "1e-", "1.e5", "1.5.5", "1e5e5", "1e5.5", "01.5", "-01e5", "1e 5", "1. 5", "1E", "0x1p3", "1,5", "1.5f", "1e5-", "00.5", "-00.5", "00e1"} {
		if _, f := hold(t, s, 9); f == (api.Fault{}) {
			t.Errorf("P10.2: %q is taken", s)
		}
	}
	d := sample.Dice(102)
	for range 3000 {
		bits := d.Next()
		if bits>>52&2047 == 2047 {
			continue
		}
		prints(t, sample.Float(bits), number.Print(math.Float64frombits(bits)))
		takes(t, strconv.FormatFloat(math.Float64frombits(bits), 'e', 40, 64), sample.Float(bits))
	}
}

// TestTrees: P10.1 to P10.3: trees as they are printed, and written freely.
func TestTrees(t *testing.T) {
	d := sample.Dice(103)
	for range 2500 {
		v := d.Mixed(d.Tree(4))
		own := value.Depth(v)
		s, e := Print(v)
		if e != api.OK || s != printPlain(v) {
			t.Fatalf("P10.1: Print(%+v): %q, %d", v, s, e)
		}
		free := freely(&d, v)
		for depth := range own + 2 {
			for _, text := range []string{s, free} {
				_, f := hold(t, text, depth)
				if depth < own && f.Code != api.ErrNoteDeep {
					t.Fatalf("P10.2: Parse(%q, %d): %+v", text, depth, f)
				}
			}
		}
		for _, depth := range []int{own, 1024} {
			expect(t, s, depth, value.Sorted(v), api.Fault{})
			expect(t, free, depth, v, api.Fault{})
		}
		read, _ := Parse(free, own)
		if again, e := Print(read); e != api.OK || again != s {
			t.Fatalf("P10.3: %q is printed as %q, not as %q", free, again, s)
		}
		if mixed, e := Print(d.Mixed(v)); e != api.OK || mixed != s {
			t.Fatalf("P10.3: trees that are equal: %q, %q", mixed, s)
		}
	}
}

// TestUnlike: P10.3: trees have one text just if they are equal.
func TestUnlike(t *testing.T) {
	d := sample.Dice(104)
	var list []api.Value
	for range 500 {
		list = append(list, d.Tree(2))
	}
	list = append(list, sample.Leaves()...)
	for _, v := range sample.Leaves() {
		list = append(list, sample.List(v), sample.Map("k", v), sample.Text(printPlain(v)), octets(printPlain(v)), api.Value{Kind: api.KindMap, Keys: []string{printPlain(v)}, Items: []api.Value{v}})
	}
	list = append(list, sample.Text("a,b"), sample.List(sample.Text("a"), sample.Text("b")), sample.List(sample.Text(`a","b`)), sample.Text("null"), sample.Text("1"), sample.Whole(1), float(1), sample.List(sample.List(), sample.List()), sample.List(sample.List(sample.List())), sample.Text("\\n"), sample.Text("\n"), sample.Text("\u0007"), sample.Text(`\u0007`))
	for range 500 {
		if v := d.Touched(list[d.Below(len(list))]); value.Check(v) == api.OK {
			list = append(list, v)
		}
	}
	var texts []string
	for _, v := range list {
		s, _ := Print(v)
		texts = append(texts, s)
	}
	met := 0
	for i := range list {
		for j := range list {
			equal := value.Equal(list[i], list[j])
			if equal != (texts[i] == texts[j]) {
				t.Fatalf("P10.3: %+v and %+v: %q, %q", list[i], list[j], texts[i], texts[j])
			}
			if equal && i != j {
				met++
			}
		}
	}
	if met < 100 {
		t.Errorf("%d pairs alone are equal", met)
	}
}

// TestBroken: P10.2: texts in which something is another thing.
func TestBroken(t *testing.T) {
	d := sample.Dice(105)
	met := map[api.Errno]int{}
	for i := range 8000 {
		v := d.Mixed(d.Tree(3))
		s := printPlain(v)
		if i%2 == 0 {
			s = freely(&d, v)
		}
		for range 4 {
			s = broken(&d, s)
			_, f := hold(t, s, d.Below(5))
			met[f.Code]++
		}
	}
	for _, code := range []api.Errno{api.OK, api.ErrNoteDeep, api.ErrNoteText, api.ErrNoteLeft} {
		if met[code] < 100 {
			t.Errorf("%d was told %d times alone", code, met[code])
		}
	}
}

// TestBeginnings: P10.2: texts that are cut anywhere, and texts with something behind them.
func TestBeginnings(t *testing.T) {
	d := sample.Dice(106)
	for range 400 {
		s := printPlain(d.Tree(3))
		if d.Below(2) == 0 {
			s = freely(&d, d.Tree(2))
		}
		if len(s) > 600 {
			continue
		}
		for n := range s {
			_, f := hold(t, s[:n], 9)
			cutNumber := f.Code == api.ErrNoteNumber // -0.0 behind its 0
			if f.Code != api.ErrNoteText && !cutNumber && (s[0] == '[' || s[0] == '{' || s[0] == '"') && s == strings.TrimSpace(s) {
				t.Fatalf("P10.2: the first %d bytes of %q: %+v", n, s, f)
			}
		}
		for _, behind := range []string{"]", "x", "[", `"`, "\x00", "\xff", ",", s} {
			trimmed := strings.TrimLeft(behind, "\t\n\r ")
			refuse(t, s+" "+behind, 9, api.ErrNoteLeft, len(s)+1+len(behind)-len(trimmed))
		}
	}
}

// TestKeys: P10.2: keys in any order, twice, written in unlike ways.
func TestKeys(t *testing.T) {
	keys := []string{`""`, `"a"`, `"\u0061"`, `"aa"`, `"a\u0061"`, `"é"`, `"\u00E9"`, `"😀"`, `"\ud83d\uDE00"`, `"\ud83d"`, `"\/"`, `"/"`, "a"}
	n := len(keys)
	for i := range n * n * n {
		s := "{"
		for j, k := range []string{keys[i%n], keys[i/n%n], keys[i/n/n]} {
			s += strings.Repeat(",", min(j, 1)) + " " + k + ` :{"a":` + strconv.Itoa(j) + "}"
		}
		hold(t, s+"}", 2)
		hold(t, "["+s+"},"+s+"}]", 3)
	}
}

// TestDepths: P10.2, R3: each depth from 0 to a tree's own; 1024 in one another and far more.
func TestDepths(t *testing.T) {
	for _, c := range []struct {
		ahead, behind string
		deep          int
	}{{"[", "]", 1}, {`{"a":`, "}", 1}, {"[1,", "]", 1}, {"[ ", ",1 ]", 1}, {"[[],", "]", 1}, {`[{"a":`, "}]", 2}, {`{"a":{},"b":`, "}", 1}} {
		for _, n := range []int{1, 2, 5} {
			s := strings.Repeat(c.ahead, n) + "{}" + strings.Repeat(c.behind, n)
			for depth := range n*c.deep + 3 {
				_, f := hold(t, s, depth)
				if (depth <= n*c.deep) != (f.Code == api.ErrNoteDeep) {
					t.Errorf("P10.2: Parse(%q, %d): %+v", s, depth, f)
				}
			}
		}
		for n := 1020 / c.deep; n <= 1028/c.deep; n++ {
			hold(t, strings.Repeat(c.ahead, n)+"{}"+strings.Repeat(c.behind, n), 1024)
			hold(t, strings.Repeat(c.ahead, n)+"x"+strings.Repeat(c.behind, n), 1024)
		}
		s := strings.Repeat(c.ahead, 1<<17)
		if _, f := Parse(s, 1024); f.Code != api.ErrNoteDeep || f.At > 1024*len(c.ahead) {
			t.Errorf("P10.2: %q again and again: %+v", c.ahead, f)
		}
	}
	lists := strings.Repeat("[", 1024) + strings.Repeat("]", 1024)
	expect(t, lists, 1024, sample.Within(sample.List(), 1023, "l"), api.Fault{})
	refuse(t, lists, 1023, api.ErrNoteDeep, 1023)
	refuse(t, "["+lists+"]", 1024, api.ErrNoteDeep, 1024)
	refuse(t, lists+"]", 1024, api.ErrNoteLeft, 2048)
	refuse(t, lists[:2047], 1024, api.ErrNoteText, 2047)
}

// TestWide: P10.2: many items, entries, code points and blanks.
func TestWide(t *testing.T) {
	const n = 1 << 16
	list, keys := api.Value{Kind: api.KindList}, api.Value{Kind: api.KindMap}
	for i := range n {
		list.Items = append(list.Items, sample.Whole(uint64(i)))
		keys.Keys, keys.Items = append(keys.Keys, strconv.Itoa(n+i)), append(keys.Items, sample.Null())
	}
	prints(t, list, printPlain(list))
	s, e := Print(keys)
	if e != api.OK {
		t.Fatal(e)
	}
	expect(t, s, 1, value.Sorted(keys), api.Fault{})
	expect(t, s[:len(s)-1]+`,"`+keys.Keys[7]+`":1}`, 1, api.Value{}, fault(api.ErrNoteKey, len(s)))
	long := strings.Repeat("é\n\"", n)
	prints(t, sample.Text(long), quotedPlain(long))
	expect(t, strings.Repeat(" \n", n)+"1"+strings.Repeat("\t", n), 0, sample.Whole(1), api.Fault{})
	expect(t, strings.Repeat(" ", n), 0, api.Value{}, fault(api.ErrNoteText, n))
	expect(t, `"`+strings.Repeat("a", n), 0, api.Value{}, fault(api.ErrNoteText, 0))
	expect(t, strings.Repeat("a", n), 0, api.Value{}, fault(api.ErrNoteText, 0))
	expect(t, strings.Repeat(`"\ud83d\ude00`, 1)+strings.Repeat(`\ud83d\ude00`, n)+`"`, 0, sample.Text(strings.Repeat("😀", n+1)), api.Fault{})
}

// taken tells how many bytes of memory a call takes.
func taken(call func()) uint64 {
	var from, to runtime.MemStats
	runtime.ReadMemStats(&from)
	call()
	runtime.ReadMemStats(&to)
	return to.TotalAlloc - from.TotalAlloc
}

// TestTaken: P10.4: numbers that a text tells take no memory, however great they are.
func TestTaken(t *testing.T) {
	for _, s := range []string{"1e1000000000", "1e999999999999999999999999", "1e-1000000000", "-1e-999999999999999999999999", "0e1000000000", "0.1e1000000000", "1000000000e-1000000000", "18446744073709551615", "18446744073709551616", "1e308", "1e-323", "[1e1000000000]", `{"a":1e-1000000000}`, "#", "&f01550040"} {
		if n := taken(func() { Parse(s, 1) }); n > 1<<14 {
			t.Errorf("P10.4: %d bytes of memory for %q", n, s)
		}
	}
	for _, c := range []struct{ one, behind string }{{"1", ""}, {"1", "e9"}, {"[", ""}, {"#", ""}, {" ", "1"}, {"a", ""}, {`"a`, ""}, {"&", ""}, {"9", ".9"}} {
		s := strings.Repeat(c.one, 1<<16) + c.behind
		if n := taken(func() { Parse(s, 1024) }); n > uint64(1<<20+4*len(s)) {
			t.Errorf("P10.4: %d bytes of memory for %d bytes: %q and on", n, len(s), c.one)
		}
	}
}

// TestMemory: P10.4, R2: a tree that is handed in is not changed and not kept; what is told shares nothing.
func TestMemory(t *testing.T) {
	d := sample.Dice(107)
	for range 2000 {
		v := d.Mixed(d.Tree(4))
		was := sample.Again(v)
		s, _ := Print(v)
		if !same(v, was) {
			t.Fatalf("R2: Print has changed %+v", was)
		}
		kept := strings.Clone(s)
		a, _ := Parse(s, 4)
		b, _ := Parse(s, 4)
		if !sample.Apart(a, b, v) || s != kept {
			t.Fatalf("R2: of %q two lists share memory", kept)
		}
		free := freely(&d, was)
		c, _ := Parse(free, 4)
		if !sample.Apart(c) {
			t.Fatalf("R2: of %q two lists share memory", free)
		}
	}
}
