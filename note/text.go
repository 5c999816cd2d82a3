package note

import (
	"strings"
	"unicode/utf8"

	"trellis/api"
)

// The code points that UTF-16 takes for halves of two, each row as long as the other.
const (
	firstHalf  = 0xd800
	secondHalf = 0xdc00
	behindHalf = 0xe000
	beyondUnit = 0x10000 // the first code point that two make
)

// spelling is where the reading of one text stands.
type spelling struct {
	from    int             // the text's place, where its faults are told
	out     strings.Builder // its code points so far
	escaped bool            // a \ has been read, and nothing of what it wants
	wanted  int             // how many digits of base 16 are wanted
	unit    rune            // what those make that have been read
	half    rune            // the first half of two whose second one is wanted; else 0
}

// text tells the text that begins here, in new memory, and goes behind it.
func (r *reader) text() string {
	s := spelling{from: r.at}
	body := r.source[r.at+1:]
	for i, c := range body {
		if c == '"' && s.mayEnd() {
			r.at += 1 + i + 1
			return s.out.String()
		}
		// A byte that belongs to no code point is told as this one, too.
		if c == utf8.RuneError && !strings.HasPrefix(body[i:], string(utf8.RuneError)) {
			s.giveUp()
		}
		s.take(c)
	}
	s.giveUp()
	return ""
}

func (s *spelling) giveUp() { giveUp(api.ErrNoteText, s.from) }

// mayEnd tells whether nothing is wanted, so that a " is the text's end.
func (s *spelling) mayEnd() bool { return !s.escaped && s.wanted == 0 && s.half == 0 }

// take reads the next code point.
func (s *spelling) take(c rune) {
	switch {
	case s.wanted > 0:
		s.takeDigit(c)
	case s.escaped:
		s.escaped = false
		s.takeLetter(c)
	case c == '\\':
		s.escaped = true
	case c < ' ':
		s.giveUp()
	default:
		s.put(c)
	}
}

// takeLetter reads what stands behind a \.
func (s *spelling) takeLetter(c rune) {
	switch c {
	case 'u':
		s.wanted, s.unit = 4, 0
		return
	case 'b':
		c = '\b'
	case 'f':
		c = '\f'
	case 'n':
		c = '\n'
	case 'r':
		c = '\r'
	case 't':
		c = '\t'
	case '"', '\\', '/':
	default:
		s.giveUp()
	}
	s.put(c)
}

// takeDigit reads a digit behind \u.
func (s *spelling) takeDigit(c rune) {
	n := digit(c)
	if n < 0 {
		s.giveUp()
	}
	s.unit = s.unit<<4 | n
	s.wanted--
	if s.wanted == 0 {
		s.takeUnit(s.unit)
	}
}

// takeUnit reads the number that four digits make.
func (s *spelling) takeUnit(unit rune) {
	isSecond := unit >= secondHalf && unit < behindHalf
	switch {
	case s.half != 0 && isSecond:
		both := (s.half-firstHalf)<<10 | (unit - secondHalf)
		s.half = 0
		s.put(beyondUnit + both)
	case s.half == 0 && unit >= firstHalf && unit < secondHalf:
		s.half = unit
	case isSecond:
		s.giveUp()
	default:
		s.put(unit)
	}
}

// put lays a code point behind those that there are: none may come between two halves.
func (s *spelling) put(c rune) {
	if s.half != 0 {
		s.giveUp()
	}
	s.out.WriteRune(c)
}

// digit tells what a digit of base 16 counts, of either case; below 0, if it is none.
func digit(c rune) rune {
	switch {
	case c >= '0' && c <= '9':
		return c - '0'
	case c >= 'a' && c <= 'f':
		return c - 'a' + 10
	case c >= 'A' && c <= 'F':
		return c - 'A' + 10
	}
	return -1
}
