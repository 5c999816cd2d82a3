package desk

import (
	"strings"
	"unicode/utf8"

	"trellis/api"
	"trellis/note"
)

// word is one of a line's: what it says, and whether it is a bare one.
type word struct {
	says string
	bare bool
}

// reader goes through a line word by word; what is left of it.
type reader struct{ rest string }

// isLine tells whether a line may be.
func isLine(s string) bool {
	return len(s) <= api.MaxLine && utf8.ValidString(s) && !strings.ContainsFunc(s, func(c rune) bool { return c < ' ' })
}

// isDone goes behind blanks, and tells whether no word is left.
func (r *reader) isDone() bool {
	r.rest = strings.TrimLeft(r.rest, " ")
	return r.rest == ""
}

// word tells the next word, and goes behind it; false, if there is none that may be.
func (r *reader) word() (word, bool) {
	if r.isDone() {
		return word{}, false
	}
	if r.rest[0] == '"' {
		return r.text()
	}
	says, _, _ := strings.Cut(r.rest, " ")
	r.rest = r.rest[len(says):]
	return word{says, true}, !strings.Contains(says, `"`)
}

// text tells the text that begins here.
func (r *reader) text() (word, bool) {
	end := endOf(r.rest)
	v, f := note.Parse(r.rest[:end], 0)
	r.rest = r.rest[end:]
	return word{says: v.Text}, f.Code == api.OK && (r.rest == "" || r.rest[0] == ' ')
}

// endOf tells the place behind a text: what stands behind a \ does not end it. Of one without an end it is that of the line, and the text will be refused.
func endOf(s string) int {
	for i := 1; i < len(s); i++ {
		switch s[i] {
		case '\\':
			i++
		case '"':
			return i + 1
		}
	}
	return len(s)
}

// tree tells the tree whose text is all that is left, and goes behind it.
func (r *reader) tree() (api.Value, bool) {
	v, f := note.Parse(r.rest, api.MaxDepth)
	r.rest = ""
	return v, f.Code == api.OK
}
