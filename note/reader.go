package note

import "trellis/api"

const nothing rune = -1 // what is told in the place of a token, where there is none

// reader is where a reading stands: the first place behind the tokens that have been read, and how many lists and maps are open there.
type reader struct {
	source string
	at     int
	depth  int
	open   int
}

// look goes behind blanks, and tells how the token that stands there begins.
func (r *reader) look() rune {
	for i, c := range r.source[r.at:] {
		if !blank(c) {
			r.at += i
			return c
		}
	}
	r.at = len(r.source)
	return nothing
}

// item tells the tree whose text is wanted here, and goes behind it.
func (r *reader) item() api.Value {
	c := r.look()
	switch {
	case c == '[' || c == '{':
		return r.inside(c)
	case c == '"':
		return api.Value{Kind: api.KindText, Text: r.text()}
	case c == nothing || mark(c):
		giveUp(api.ErrNoteText, r.at)
	}
	return r.word()
}

// inside tells the list or the map whose first mark stands here, and goes behind it.
func (r *reader) inside(first rune) (v api.Value) {
	if r.open == r.depth {
		giveUp(api.ErrNoteDeep, r.at)
	}
	r.at++
	r.open++
	if first == '[' {
		v = r.list()
	} else {
		v = r.entries()
	}
	r.open--
	return v
}

// list tells the list whose first mark has been read.
func (r *reader) list() api.Value {
	v := api.Value{Kind: api.KindList}
	for more := !r.takes(']'); more; more = r.goesOn(']') {
		v.Items = append(v.Items, r.item())
	}
	return v
}

// entries tells the map whose first mark has been read.
func (r *reader) entries() api.Value {
	v := api.Value{Kind: api.KindMap}
	stand := map[string]struct{}{}
	for more := !r.takes('}'); more; more = r.goesOn('}') {
		key := r.key(stand)
		stand[key] = struct{}{}
		r.want(':')
		v.Keys = append(v.Keys, key)
		v.Items = append(v.Items, r.item())
	}
	return v
}

// key tells the key that is wanted here, and goes behind it. Those that stand in the map already may not come again.
func (r *reader) key(stand map[string]struct{}) string {
	if r.look() != '"' {
		giveUp(api.ErrNoteText, r.at)
	}
	from := r.at
	key := r.text()
	if _, ok := stand[key]; ok {
		giveUp(api.ErrNoteKey, from)
	}
	return key
}

// goesOn tells whether a list or a map goes on behind an item, and goes behind the comma or the mark that ends it.
func (r *reader) goesOn(end rune) bool {
	if r.takes(end) {
		return false
	}
	r.want(',')
	return true
}

// want goes behind the mark that alone may stand here.
func (r *reader) want(one rune) {
	if !r.takes(one) {
		giveUp(api.ErrNoteText, r.at)
	}
}

// takes tells whether a mark is the token that stands here, and goes behind it.
func (r *reader) takes(one rune) bool {
	if r.look() != one {
		return false
	}
	r.at++
	return true
}

// blank tells whether a code point may stand between tokens.
func blank(c rune) bool { return c == '\t' || c == '\n' || c == '\r' || c == ' ' }

// mark tells whether a code point is a bracket, a brace, a comma or a colon.
func mark(c rune) bool {
	switch c {
	case '[', ']', '{', '}', ',', ':':
		return true
	}
	return false
}
