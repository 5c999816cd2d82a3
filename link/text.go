package link

import "trellis/api"

const (
	maxText = 153 // bytes of the longest text of a link: 76 bytes in base 16, a letter ahead
	oldMark = "Q" // what a text of version 0 begins with: its first digit, not a letter ahead
)

// Text tells a link's text: of version 0 in base 58, of version 1 in base 32.
func Text(l api.Link) (string, api.Errno) {
	if l.Version != 0 {
		return TextIn(l, api.Base32)
	}
	b, e := Bytes(l)
	if e != api.OK {
		return "", e
	}
	in, _ := baseOf(api.Base58)
	return in.text(b), api.OK
}

// TextIn tells the text of a link of version 1 in a base.
func TextIn(l api.Link, base int) (string, api.Errno) {
	b, e := Bytes(l)
	if e != api.OK {
		return "", e
	}
	in, ok := baseOf(base)
	if !ok || l.Version == 0 {
		return "", api.ErrLinkBase
	}
	return in.letter + in.text(b), api.OK
}

// ParseText tells the link of a text.
func ParseText(s string) (api.Link, api.Errno) {
	if len(s) > maxText {
		return api.Link{}, api.ErrLinkText
	}
	in, digits, ok := split(s)
	if !ok {
		return api.Link{}, api.ErrLinkBase
	}
	b, ok := in.row(digits)
	if !ok {
		return api.Link{}, api.ErrLinkText
	}
	l, e := Parse(b)
	if e != api.OK {
		return api.Link{}, e
	}
	if (l.Version == 0) != (s[:1] == oldMark) {
		return api.Link{}, api.ErrLinkVersion
	}
	return l, api.OK
}

// split tells by a text's first byte in which base it is written, and its digits; false if that byte tells none.
func split(s string) (base, string, bool) {
	if s == "" {
		return base{}, "", false
	}
	number, digits := api.BaseNone, s[1:]
	switch s[:1] {
	case oldMark:
		number, digits = api.Base58, s
	case letter16:
		number = api.Base16
	case letter32:
		number = api.Base32
	case letter58:
		number = api.Base58
	}
	in, ok := baseOf(number)
	return in, digits, ok
}
