package note

import (
	"fmt"
	"math"
	"strconv"
	"strings"

	"trellis/api"
	"trellis/link"
	"trellis/sample"
)

// blanks tells some blanks, or none.
func blanks(d *sample.Dice) string {
	return []string{"", "", "", " ", "\t", "\r\n", "\n \t\r"}[d.Below(7)]
}

// freely tells some text of a tree, its maps' entries as they stand, with blanks about each token.
func freely(d *sample.Dice, v api.Value) string {
	var b strings.Builder
	put := func(token string) { b.WriteString(blanks(d) + token + blanks(d)) }
	switch v.Kind {
	case api.KindText:
		put(quotedFreely(d, v.Text))
	case api.KindFloat:
		put(floatFreely(d, math.Float64frombits(v.Bits)))
	case api.KindLink:
		put("&" + linkFreely(d, v.Link))
	case api.KindList:
		put("[")
		for i, item := range v.Items {
			if i > 0 {
				put(",")
			}
			b.WriteString(freely(d, item))
		}
		put("]")
	case api.KindMap:
		put("{")
		for i, key := range v.Keys {
			if i > 0 {
				put(",")
			}
			put(quotedFreely(d, key))
			put(":")
			b.WriteString(freely(d, v.Items[i]))
		}
		put("}")
	default:
		put(printPlain(v))
	}
	return b.String()
}

// quotedFreely tells some text of a text.
func quotedFreely(d *sample.Dice, s string) string {
	out := `"`
	for _, c := range s {
		short := map[rune]string{'"': `\"`, '\\': `\\`, '/': `\/`, 8: `\b`, 12: `\f`, 10: `\n`, 13: `\r`, 9: `\t`}[c]
		must := c < 32 || c == '"' || c == '\\'
		switch way := d.Below(3); {
		case way == 0 && short != "":
			out += short
		case way < 2 || must:
			out += unitsFreely(d, c)
		default:
			out += string(c)
		}
	}
	return out + `"`
}

// unitsFreely tells a code point by \u, its digits in some case.
func unitsFreely(d *sample.Dice, c rune) string {
	text := fmt.Sprintf("%04x", c)
	if c >= 0x10000 {
		text = fmt.Sprintf("%04x%04x", 0xd800+(c-0x10000)/0x400, 0xdc00+c%0x400)
	}
	out := ""
	for i, digit := range text {
		if i%4 == 0 {
			out += `\u`
		}
		if d.Below(2) == 0 {
			out += strings.ToUpper(string(digit))
		} else {
			out += string(digit)
		}
	}
	return out
}

// floatFreely tells some decimal of a float.
func floatFreely(d *sample.Dice, x float64) string {
	switch d.Below(4) {
	case 0:
		return printPlain(sample.Float(math.Float64bits(x)))
	case 1:
		return strconv.FormatFloat(x, 'e', -1, 64)
	case 2:
		return strconv.FormatFloat(x, 'E', 20, 64)
	}
	return strconv.FormatFloat(x, 'f', 1100, 64)
}

// linkFreely tells some text of a link.
func linkFreely(d *sample.Dice, l api.Link) string {
	if s, e := link.TextIn(l, []int{api.Base16, api.Base32, api.Base58}[d.Below(3)]); e == api.OK {
		return s
	}
	s, _ := link.Text(l)
	return s
}

// broken tells a text with one thing in it made another.
func broken(d *sample.Dice, s string) string {
	if s == "" {
		return s
	}
	at := d.Below(len(s))
	some := []string{"[", "]", "{", "}", ",", ":", `"`, `\`, "\\u", "#", "&", "-", "0", "e", ".", "1", " ", "\x00", "\x1f", "\x7f", "\xff", "\xed\xa0\x80", "d800", "\\udc00", "null", "\u00a0", "\ufffd", `"a":1,`, "\x0b", "A"}
	switch d.Below(5) {
	case 0:
		return s[:at] + s[at+1:]
	case 1:
		return s[:at] + some[d.Below(len(some))] + s[at+1:]
	case 2:
		return s[:at] + string([]byte{s[at] ^ 1<<d.Below(8)}) + s[at+1:]
	case 3:
		to := at + d.Below(len(s)-at)
		return s[:at] + s[at:to] + s[at:]
	}
	return s[:at] + some[d.Below(len(some))] + s[at:]
}
