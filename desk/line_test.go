package desk

// P22.2: which lines may be, their words, and the rows of the table: what each of their words may be.

import (
	"fmt"
	"slices"
	"strings"
	"testing"

	"trellis/api"
	"trellis/link"
	"trellis/sample"
)

// linkWords: a link by all its texts, the first one the one that is printed.
func linkWords(t *testing.T, l api.Link) []string {
	t.Helper()
	words := []string{named(l)}
	for _, base := range []int{api.Base16, api.Base58} {
		if s, e := link.TextIn(l, base); e == api.OK {
			words = append(words, "&"+s)
		}
	}
	return words
}

// goodWords: words that a capital word takes.
func goodWords(t *testing.T, capital string) []string {
	t.Helper()
	raw := under(api.CodecRaw, nil)
	switch capital {
	case "D":
		return []string{"0", "1"}
	case "NAME":
		return []string{"main", `"main"`, `"ma\u0069n"`, "#00", "#0", "&x", "-", "ours", "0", "00", `""`, `"a b"`, `"\""`, `"\\"`, `"\n"`, "\u00e4", "\U0001f600", "[1", "a\\", "'", "\u00a0", "\u0085", "\u2028", "\x7f", `"` + "\u00a0" + `"`}
	case "KEY":
		return []string{"tea", `"tea"`, "#", "#00", "#0", "#0A", "#00ff", `"#00"`, "##", "&x", "1", `""`, `"  "`, `"\ud83d\ude00"`, "\u00e4", "#\u00e4"}
	case "TREE":
		return []string{"1", "-0.0", "null", `"a"`, `"a b"`, "#", "#00ff", named(raw), "[]", "{}", ` [ 1 , 2 ] `, `{"a b" : [ ] }`, `"\u0000"`, `["` + "\u00a0" + `"]`, strings.Repeat("[", 1024) + strings.Repeat("]", 1024)}
	case "NUMBER":
		return []string{"0", "1", "7", "10", "2147483647"}
	case "FLOAT":
		return []string{"0", "-0", "1", "10", "-10.0500", "0.1", "1e3", "1E+3", "1e-400", "0e0", "12345678901234567890", "0." + strings.Repeat("0", 99) + "1"}
	case "LINK":
		words := linkWords(t, raw)
		words = append(words, linkWords(t, lost("x"))...)
		words = append(words, linkWords(t, api.Link{Codec: api.CodecOld, Hash: api.HashSha, Digest: raw.Digest})...)
		return append(words, linkWords(t, sample.Link("hi").Link)...)
	}
	return []string{"#", "#00", "#00ff", "#0123456789abcdef"} // HEX
}

// badWords: words that a capital word bars.
func badWords(t *testing.T, capital string) []string {
	t.Helper()
	name := named(under(api.CodecRaw, nil))
	texts := []string{`a"`, `a"b"`, `"a`, `"`, `"a"b`, `"a""b"`, `"\x"`, `"\u12"`, `"\ud800"`, `"\"`, `"a\`}
	digits := []string{"00", "01", "-0", "-1", "+1", "1.0", "1e0", "x", `"0"`, `"1"`, "#00", "#", "\u0661", "\uff11", "1_0", "0x1", "1,", "1\u00a0", "0\u0085", "\ufeff0"}
	switch capital {
	case "NAME", "KEY":
		return texts
	case "D":
		return append(texts, digits...)
	case "TREE":
		return []string{"x", "[1", "1 2", `"a`, `"a"b`, `a"b"`, "01", "-0", "{a:1}", "[1,]", "&x", "#0", "#0A", "18446744073709551616", `{"a":1,"a":2}`, strings.Repeat("[", 1025) + strings.Repeat("]", 1025), "1\u00a0", "none"}
	case "NUMBER":
		return append(append(texts, digits...), "2147483648", "4294967296", "4294967297", "18446744073709551616", strings.Repeat("9", 99))
	case "FLOAT":
		return append(texts, "x", "01", "-", "+1", "1.", ".5", "1e", "1e+", "inf", "-inf", "nan", "0x1p3", "1_0", `"1"`, "#00", "1,5", "1\u00a0", "\u0661")
	case "LINK":
		return append(texts, "&", "x", name[1:], `"`+name+`"`, "&&"+name[1:], name+"a", name[:len(name)-1], strings.ToUpper(name), "&x", "&f0", "&fG", "#00", name+",", "&\u00e4")
	}
	return append(texts, "#0", "#000", "#0A", "#0g", "00", "0x00", `"#00"`, "##", "#00,", "#00#00", "#\u0661\u0661", "#00\u00a0", "x", "#é")
}

// wordsOf: for each word of a row, those that may stand there; of a row's own ones themselves.
func wordsOf(t *testing.T, row string, of func(*testing.T, string) []string) [][]string {
	t.Helper()
	var list [][]string
	for i, w := range strings.Fields(row) {
		if i == 0 || strings.ToUpper(w) != w {
			list = append(list, []string{w})
		} else {
			list = append(list, of(t, strings.TrimSuffix(w, "+")))
		}
	}
	return list
}

// ordinary: the words of a row, each the first that may stand there.
func ordinary(t *testing.T, row string) []string {
	t.Helper()
	var words []string
	for _, some := range wordsOf(t, row, goodWords) {
		words = append(words, some[0])
	}
	return words
}

// goodLines: lines of all rows, with each word that may stand in each place.
func goodLines(t *testing.T) []string {
	t.Helper()
	var lines []string
	for _, row := range rows() {
		for i, some := range wordsOf(t, row, goodWords) {
			for _, w := range some {
				words := ordinary(t, row)
				words[i] = w
				lines = append(lines, lineOf(words...))
			}
		}
		if strings.HasSuffix(row, "+") {
			capitals := strings.Fields(row)
			some := goodWords(t, strings.TrimSuffix(capitals[len(capitals)-1], "+"))
			lines = append(lines, lineOf(append(ordinary(t, row), some...)...))
		}
	}
	return lines
}

// isRow: whether a line is one of the table's on a desk that gathers for both depots, or on one that gathers nothing.
func isRow(t *testing.T, line string) bool {
	t.Helper()
	for _, gathers := range []bool{false, true} {
		d := made(t)
		if gathers {
			all(t, d, "begin 0", "begin 1")
		}
		if _, e := d.Say(line); e != api.ErrDeskLine {
			return true
		}
	}
	return false
}

// noRow: a line that is refused as none of the table's, whatever is gathered, and changes nothing.
func noRow(t *testing.T, line string) {
	t.Helper()
	d := made(t)
	all(t, d, "set 0 main tea 3", "set 1 main tea 3")
	refuses(t, d, line, api.ErrDeskLine)
	all(t, d, "begin 0", "set 0 main tea 4", "begin 1")
	refuses(t, d, line, api.ErrDeskLine)
}

// TestGoodWords: each row, with all that may stand in it, blanks ahead, behind and between too.
func TestGoodWords(t *testing.T) {
	for _, line := range goodLines(t) {
		if !isRow(t, line) {
			t.Errorf("%.200s: refused", line)
		}
	}
	for _, row := range rows() {
		words := ordinary(t, row)
		for _, line := range []string{" " + lineOf(words...), lineOf(words...) + "   ", "  " + strings.Join(words, "    ") + "  "} {
			if !isRow(t, line) {
				t.Errorf("%q: refused", line)
			}
		}
	}
}

// TestBadWords: each row, with what each of its words bars; with too few words, and with too many.
func TestBadWords(t *testing.T) {
	for _, row := range rows() {
		bad := wordsOf(t, row, badWords)
		for i := 1; i < len(bad); i++ {
			if bad[i][0] == "ours" || bad[i][0] == "theirs" {
				bad[i] = []string{"Ours", "our", "both", `"ours"`, `"theirs"`, "ours,", "none", "#"}
			}
			for _, w := range bad[i] {
				words := ordinary(t, row)
				words[i] = w
				noRow(t, lineOf(words...))
			}
		}
		words := ordinary(t, row)
		for n := 1; n < len(words); n++ {
			// A merge may do without its last word.
			if line := lineOf(words[:n]...); line != lineOf(ordinary(t, "merge D NAME NAME")...) {
				noRow(t, line)
			}
		}
		if row != "merge D NAME NAME" {
			for _, w := range []string{"x", `"x"`, `""`, "#0", `"`, "01"} {
				noRow(t, lineOf(append(words, w)...))
			}
		}
	}
	noRow(t, "merge 0 main main ours ours")
	noRow(t, "merge 0 main main ours theirs")
	noRow(t, "append 0 main row 1 2 x")
	noRow(t, "append 0 main row 1 2 x 3")
	noRow(t, `verify `+named(lost("x"))+` tea #00 #0 #00`)
}

// TestFirstWords: a row's own first word is a bare one, and as it stands in the table.
func TestFirstWords(t *testing.T) {
	for _, row := range rows() {
		words := ordinary(t, row)
		first := words[0]
		for _, w := range []string{`"` + first + `"`, strings.ToUpper(first), first + "s", first + ",", first[:len(first)-1] + "_", "#" + first, "\u00a0" + first, first + "\u00a0", first + `"`, `\u0073`} {
			words[0] = w
			noRow(t, lineOf(words...))
		}
		noRow(t, strings.Join(ordinary(t, row), "\u00a0"))
		noRow(t, strings.Join(ordinary(t, row), ""))
	}
	for _, line := range []string{"fly", "x", "0", `""`, `"`, "#", "&", "\u00a0", "\u2003", "\ufeff", "SET 0 main tea 3", "help", "quit", "ours", "none", "D", "set D NAME KEY TREE"} {
		noRow(t, line)
	}
}

// TestLines: how long a line may be, and of what.
func TestLines(t *testing.T) {
	d := rich(t)
	fill := func(n int) string { return "get 0 main tea" + strings.Repeat(" ", n-len("get 0 main tea")) }
	says(t, d, fill(api.MaxLine), "4")
	refuses(t, d, fill(api.MaxLine+1), api.ErrDeskLine)
	says(t, d, strings.Repeat(" ", api.MaxLine))
	refuses(t, d, strings.Repeat(" ", api.MaxLine+1), api.ErrDeskLine)
	refuses(t, d, strings.Repeat(" ", 1<<20), api.ErrDeskLine)
	// A line's bytes are counted, not its code points.
	key := strings.Repeat("\u00e4", (api.MaxLine-len("get 0 main "))/2)
	says(t, d, "get 0 main "+key+" ", "none")
	refuses(t, d, "get 0 main "+key+"\u00e4", api.ErrDeskLine)
	name := strings.Repeat("n", api.MaxLine-len("get 0  x"))
	refuses(t, d, "get 0 "+name+" x", api.ErrDepotHead)
	refuses(t, d, "get 0 n"+name+" x", api.ErrDeskLine)
	lines := []string{"get 0 main tea", `get 0 main "a b"`, `set 0 main k "a b"`, "", " "}
	wrong := []string{"\xff", "\xc0\x80", "\xed\xa0\x80", "\xe2\x82", "\xf4\x90\x80\x80", "\x80"}
	for c := range 32 {
		wrong = append(wrong, string(rune(c)))
	}
	for _, line := range lines {
		for _, x := range wrong {
			for i := range len(line) + 1 {
				refuses(t, d, line[:i]+x+line[i:], api.ErrDeskLine)
			}
		}
	}
	for _, x := range []string{"\x7f", "\u0080", "\u00a0", "\ufffd", "\ufeff", "\uffff", "\ud7ff", "\ue000", "\U0010ffff"} {
		says(t, d, "get 0 main "+x, "none")
		says(t, d, "lay "+quoted(x), hex(formOf(sample.Text(x))))
		refuses(t, d, "get 0 main tea "+x, api.ErrDeskLine)
		refuses(t, d, x+"get 0 main tea", api.ErrDeskLine)
		refuses(t, d, x, api.ErrDeskLine)
	}
}

// TestNoWords: no lines, and no error, whatever is gathered.
func TestNoWords(t *testing.T) {
	d := rich(t)
	for _, line := range []string{"heads 0", "begin 0", "set 0 main x 1"} {
		does(t, d, line)
		before := state(d)
		for n := range 20 {
			if l, e := d.Say(strings.Repeat(" ", n)); l != nil || e != api.OK {
				t.Errorf("%d blanks: %q, %d", n, l, e)
			}
		}
		if state(d) != before {
			t.Error("blanks have changed something")
		}
	}
}

// TestTexts: names and keys that are texts of note's notation, up to the " that ends them.
func TestTexts(t *testing.T) {
	d := made(t)
	for word, means := range map[string]string{
		`"a"`: "a", `""`: "", `" "`: " ", `"  a  b  "`: "  a  b  ", `"a\"b"`: `a"b`, `"\\"`: `\`, `"\\\""`: `\"`, `"\/"`: "/",
		`"\b\f\n\r\t"`: "\b\f\n\r\t", `"\u0000"`: "\x00", `"\u00e4\u00E4"`: "\u00e4\u00e4", `"\ud83d\uDE00"`: "\U0001f600",
		`"#00"`: "#00", `"#"`: "#", `"&"`: "&", `"[,]{:}"`: "[,]{:}", `"\u0022"`: `"`, `"\u005c"`: `\`, `"` + "\u00a0\x7f" + `"`: "\u00a0\x7f",
		"a": "a", `\`: `\`, `\n`: `\n`, `a\u0020b`: `a\u0020b`, "#0": "#0", "#0A": "#0A", "#AA": "#AA", "#0g": "#0g", "##": "##", "'a'": "'a'", "[1,2]": "[1,2]",
		"#": "", "#00ff": "\x00\xff", "#61": "a", "#c3a4": "\u00e4", "#ff": "\xff",
	} {
		key := []byte(means)
		says(t, d, lineOf("set 0 main", word, "1"), `"main"`)
		v, is, e := d.Depot(0).Get("main", key)
		if v.N != 1 || !is || e != api.OK {
			t.Errorf("%s: %v, %v, %d; it is to be the key %q", word, v, is, e, key)
		}
		want := hex(key)
		if strings.ToValidUTF8(means, "") == means {
			want = quoted(means)
		}
		says(t, d, "all 0 main", want+" 1")
		says(t, d, lineOf("get 0 main", want), "1")
		says(t, d, lineOf("delete 0 main", word), `"main"`)

		// As a name, and as a note: a HEX says itself there.
		if strings.HasPrefix(word, "#") {
			means = word
		}
		all(t, d, "begin 1", "set 1 main x 1", "set 1 main x 2", "commit 1 "+word)
		says(t, d, "log 1 main 1", lineOf("1", rootOf(t, d, 1, "main"), quoted(means)))
		all(t, d, "drop 1 main")
		if means == "" {
			refuses(t, d, lineOf("set 0", word, "k 1"), api.ErrDepotName)
			refuses(t, d, lineOf("all 0", word), api.ErrDepotHead)
			continue
		}
		says(t, d, lineOf("set 0", word, "k 1"), quoted(means))
		if !slices.Contains(d.Depot(0).Heads(), means) {
			t.Errorf("%s: the heads are %q", word, d.Depot(0).Heads())
		}
		says(t, d, lineOf("all 0", word), `"k" 1`)
		if heads := does(t, d, "heads 0"); !slices.Contains(heads, lineOf(quoted(means), headOf(t, d, 0, means))) {
			t.Errorf("%s: %q", word, heads)
		}
		says(t, d, lineOf("drop 0", word), quoted(means))
	}
}

// TestTrees: a tree is all that is left, whatever stands in it.
func TestTrees(t *testing.T) {
	d := made(t)
	for word, form := range map[string]string{
		"1": "#01", "  1  ": "#01", "-1": "#20", "1.5": "#fb3ff8000000000000", "1e0": "#fb3ff0000000000000", "null": "#f6", " true": "#f5",
		`"a b"`: "#63612062", `"  "`: "#622020", `"\""`: "#6122", `"a" `: "#6161", `"\\"`: "#615c", "#": "#40", "#ff00": "#42ff00",
		"[ ]": "#80", "[1, [ 2 ] ]": "#82018102", `{ "b" : 1 , "a" : "x y" }`: "#a2616163782079616201", `["a","b"]`: "#8261616162", `{"":0}`: "#a16000",
		"18446744073709551615": "#1bffffffffffffffff", "-18446744073709551616": "#3bffffffffffffffff", "none": "",
		`"a"b"`: "", `"a" "b"`: "", `[1 2]`: "", `"`: "", `"\`: "", "": "",
	} {
		if form == "" {
			refuses(t, d, "lay "+word, api.ErrDeskLine)
			refuses(t, d, "set 0 main k "+word, api.ErrDeskLine)
			continue
		}
		says(t, d, "lay "+word, form)
		says(t, d, "set 0 main k "+word, `"main"`)
		says(t, d, "set 0 main k "+word+"  ")
		tree := does(t, d, lineOf("read", form, "9"))[0]
		says(t, d, "get 0 main k", tree)
		says(t, d, `set 0 main "other key"   `+word, `"main"`)
		says(t, d, `get 0 main "other key"`, tree)
		says(t, d, "drop 0 main", `"main"`)
	}
	// A tree begins behind a blank.
	for _, line := range []string{`lay"a"`, "lay[1]", "lay#00", `set 0 main "k"[1]`, `set 0 main "k""v"`, `set 0 main k[1]`, `set 0 main "k"1`} {
		refuses(t, d, line, api.ErrDeskLine)
	}
}

// TestDeep: trees of as many lists in one another as may be, and of one more.
func TestDeep(t *testing.T) {
	d := made(t)
	within := func(n int) string { return strings.Repeat("[", n) + strings.Repeat("]", n) }
	says(t, d, "lay "+within(1024), "#"+strings.Repeat("81", 1023)+"80")
	refuses(t, d, "lay "+within(1025), api.ErrDeskLine)
	says(t, d, "lay "+strings.Repeat("[", 1024)+`"a b"`+strings.Repeat("]", 1024), "#"+strings.Repeat("81", 1024)+"63612062")
	says(t, d, "set 0 main k "+within(512), `"main"`)
	says(t, d, "get 0 main k", within(512))
	refuses(t, d, "set 0 main k "+within(513), api.ErrTrieValue)
	refuses(t, d, "set 0 main k "+within(1024), api.ErrTrieValue)
	refuses(t, d, "set 0 main k "+within(1025), api.ErrDeskLine)
	form := strings.Repeat("81", 1023) + "80"
	says(t, d, "read #"+form+" 1024", within(1024))
	says(t, d, "read #81"+form+" 1024", fmt.Sprintf("fault %d 1024", api.ErrReadDeep))
	says(t, d, "loose #"+form+" 1024", within(1024))
	says(t, d, "loose #"+form+" 1023", fmt.Sprintf("fault %d 1023", api.ErrLooseDeep))
	// By each depth there is, and one more.
	for depth := range 1026 {
		want := [2]string{fmt.Sprintf("fault 81 %d", depth), fmt.Sprintf("fault 91 %d", depth)}
		if depth == 1025 {
			want = [2]string{"fault 80 0", "fault 90 0"}
		} else if depth == 1024 {
			want = [2]string{within(1024), within(1024)}
		}
		says(t, d, fmt.Sprintf("read #%s %d", form, depth), want[0])
		says(t, d, fmt.Sprintf("loose #%s %d", form, depth), want[1])
	}
}

// TestNumbers: a number's digits, up to 2^31 - 1, where the call that they are for is asked what they are.
func TestNumbers(t *testing.T) {
	d := rich(t)
	log := does(t, d, "log 0 main 2147483647")
	if len(log) < 3 {
		t.Fatalf("%q", log)
	}
	for n := range len(log) + 3 {
		says(t, d, fmt.Sprintf("log 0 main %d", n), log[:min(n, len(log))]...)
	}
	says(t, d, "read #01 0", "1")
	says(t, d, "read #01 1024", "1")
	for _, n := range []string{"1025", "2147483647"} {
		says(t, d, "read #01 "+n, fmt.Sprintf("fault %d 0", api.ErrReadDepth))
		says(t, d, "loose #01 "+n, fmt.Sprintf("fault %d 0", api.ErrLooseDepth))
		refuses(t, d, "sum 0 main row 0 "+n, api.ErrColumnRange)
		refuses(t, d, "ends 0 main row "+n+" "+n, api.ErrColumnRange)
		refuses(t, d, "fetch 0 new 1 main "+n, api.ErrPullPlan)
	}
	for _, n := range []string{"2147483648", "9223372036854775808", "00", "1.0", "-1", `"1"`} {
		for _, line := range []string{"read #01 ", "loose #01 ", "log 0 main ", "sum 0 main row 0 ", "ends 0 main row 0 ", "fetch 0 new 1 main "} {
			refuses(t, d, line+n, api.ErrDeskLine)
		}
	}
}

// TestNoDepots: the digits of a depot that there is not, however many they are; behind what bars the line, ahead of all else.
func TestNoDepots(t *testing.T) {
	none := []string{"2", "3", "4", "9", "10", "256", "2147483648", "4294967296", "9223372036854775807", "9223372036854775808", "18446744073709551616", "18446744073709551617", "1" + strings.Repeat("0", 3000)}
	for _, row := range rows() {
		for i, w := range strings.Fields(row) {
			if w != "D" {
				continue
			}
			for _, digits := range none {
				for _, gathers := range []bool{false, true} {
					d := made(t)
					if gathers {
						all(t, d, "begin 0", "begin 1")
					}
					words := ordinary(t, row)
					words[i] = digits
					refuses(t, d, lineOf(words...), api.ErrDeskName)
				}
			}
			words := ordinary(t, row)
			words[i] = "9"
			noRow(t, lineOf(append(words, `"`)...))
			noRow(t, lineOf(words[:len(words)-1]...)+` "`)
			noRow(t, strings.Replace(lineOf(words...), "9", "09", 1))
		}
	}
	d := made(t)
	refuses(t, d, "append 9 main row 1e99", api.ErrDeskName)
	refuses(t, d, "append 9 main row x", api.ErrDeskLine)
	refuses(t, d, `get 9 "" tea`, api.ErrDeskName)
	refuses(t, d, "copy 0 none 9 main", api.ErrDeskName)
	refuses(t, d, "copy 9 none 0 main", api.ErrDeskName)
	refuses(t, d, "copy 09 none 9 main", api.ErrDeskLine)
	refuses(t, d, "fetch 0 x 9 main 9", api.ErrDeskName)
	refuses(t, d, "force 2 "+named(sample.Link("hi").Link)+" #", api.ErrDeskName)
}
