package note

import (
	"math"
	"strconv"
	"strings"

	"trellis/api"
	"trellis/link"
	"trellis/number"
)

// word tells the tree of the word that begins here, and goes behind it.
func (r *reader) word() api.Value {
	w := firstWord(r.source[r.at:])
	v, e := meaning(w)
	if e != api.OK {
		giveUp(e, r.at)
	}
	r.at += len(w)
	return v
}

// firstWord tells the word with which a text begins.
func firstWord(s string) string {
	for i, c := range s {
		if blank(c) || mark(c) || c == '"' {
			return s[:i]
		}
	}
	return s
}

// meaning tells the tree of a word, which is never empty.
func meaning(w string) (api.Value, api.Errno) {
	switch {
	case w == "null":
		return api.Value{Kind: api.KindNull}, api.OK
	case w == "false" || w == "true":
		return api.Value{Kind: api.KindBool, Flag: w == "true"}, api.OK
	case w[0] == '#':
		return bytesOf(w[1:])
	case w[0] == '&':
		return linkOf(w[1:])
	}
	return numberOf(w)
}

// bytesOf tells the bytes of digits of base 16, of which none may be great.
func bytesOf(digits string) (api.Value, api.Errno) {
	if len(digits)%2 == 1 {
		return api.Value{}, api.ErrNoteText
	}
	list := make([]byte, len(digits)/2)
	for i := range digits {
		n := strings.IndexByte(digits16, digits[i])
		if n < 0 {
			return api.Value{}, api.ErrNoteText
		}
		list[i/2] = list[i/2]<<4 | byte(n)
	}
	return api.Value{Kind: api.KindBytes, Bytes: list}, api.OK
}

func linkOf(s string) (api.Value, api.Errno) {
	l, e := link.ParseText(s)
	if e != api.OK {
		return api.Value{}, api.ErrNoteText
	}
	return api.Value{Kind: api.KindLink, Link: l}, api.OK
}

// numberOf tells the whole number or the float of a decimal.
func numberOf(w string) (api.Value, api.Errno) {
	x, e := number.Parse(w)
	switch {
	case e == api.ErrNumberText:
		return api.Value{}, api.ErrNoteText
	case !strings.ContainsAny(w, ".eE"):
		return wholeOf(w)
	case e == api.ErrNumberRange:
		return api.Value{}, api.ErrNoteNumber
	}
	return api.Value{Kind: api.KindFloat, Bits: math.Float64bits(x)}, api.OK
}

// wholeOf tells the whole number of a decimal without a dot and an e.
func wholeOf(w string) (api.Value, api.Errno) {
	if w == lowest {
		return api.Value{Kind: api.KindInt, Neg: true, N: math.MaxUint64}, api.OK
	}
	digits, neg := strings.CutPrefix(w, "-")
	n, err := strconv.ParseUint(digits, 10, 64)
	if err != nil || neg && n == 0 {
		return api.Value{}, api.ErrNoteNumber
	}
	if neg {
		n--
	}
	return api.Value{Kind: api.KindInt, Neg: neg, N: n}, api.OK
}
