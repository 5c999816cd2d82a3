package note

import (
	"encoding/hex"
	"encoding/json"
	"fmt"
	"math"
	"math/big"
	"regexp"
	"slices"
	"strconv"
	"strings"
	"unicode/utf8"

	"trellis/api"
	"trellis/link"
	"trellis/number"
	"trellis/value"
)

// What stands in this file is a plain second reading of the chapter: a text is cut into tokens by patterns, and these are gone through by a machine with a stack; each row of the tables is a pattern by itself.

var (
	tokenForm   = regexp.MustCompile(`(?s)^(?:[][{},:]|"(?:[^"\\]|\\.)*"|"|[^][{},:"\t\n\r ]+)`)
	textForm    = regexp.MustCompile(`^"(?:[^"\\\x00-\x1f]|\\["\\/bfnrt]|\\u[0-9a-fA-F]{4})*"$`)
	partForm    = regexp.MustCompile(`(?s)\\u[dD][89abAB][0-9a-fA-F]{2}\\u[dD][c-fC-F][0-9a-fA-F]{2}|\\u.{4}|\\.|.`)
	halfForm    = regexp.MustCompile(`^\\u[dD][89a-fA-F]..$`)
	wholeForm   = regexp.MustCompile(`^-?(?:0|[1-9][0-9]*)$`)
	decimalForm = regexp.MustCompile(`^-?(?:0|[1-9][0-9]*)(?:\.[0-9]+)?(?:[eE][-+]?[0-9]+)?$`)
	bytesForm   = regexp.MustCompile(`^#(?:[0-9a-f]{2})*$`)
)

// token is a token and its place.
type token struct {
	at   int
	text string
}

// tokensOf tells the tokens of a text, as far as there are any.
func tokensOf(s string) []token {
	var list []token
	for at := 0; ; {
		at += len(s[at:]) - len(strings.TrimLeft(s[at:], "\t\n\r "))
		if at == len(s) {
			return list
		}
		one := tokenForm.FindString(s[at:])
		list = append(list, token{at, one})
		at += len(one)
	}
}

// textOf tells the text that a token is, if it is one.
func textOf(s string) (text string, ok bool) {
	if !textForm.MatchString(s) || !utf8.ValidString(s) || slices.ContainsFunc(partForm.FindAllString(s, -1), halfForm.MatchString) {
		return "", false
	}
	if err := json.Unmarshal([]byte(s), &text); err != nil {
		panic(err)
	}
	return text, true
}

// leafOf tells the tree of a word or of a text, or why it is none.
func leafOf(s string) (api.Value, api.Errno) {
	switch l, e := link.ParseText(strings.TrimPrefix(s, "&")); {
	case s == "null":
		return api.Value{Kind: api.KindNull}, api.OK
	case s == "false":
		return api.Value{Kind: api.KindBool}, api.OK
	case s == "true":
		return api.Value{Kind: api.KindBool, Flag: true}, api.OK
	case strings.HasPrefix(s, `"`):
		if text, ok := textOf(s); ok {
			return api.Value{Kind: api.KindText, Text: text}, api.OK
		}
	case strings.HasPrefix(s, "&") && e == api.OK:
		return api.Value{Kind: api.KindLink, Link: l}, api.OK
	case bytesForm.MatchString(s):
		b, err := hex.DecodeString(s[1:])
		if err != nil {
			panic(err)
		}
		return api.Value{Kind: api.KindBytes, Bytes: b}, api.OK
	case wholeForm.MatchString(s):
		return wholePlain(s)
	case decimalForm.MatchString(s):
		x, err := strconv.ParseFloat(s, 64)
		if err != nil {
			return api.Value{}, api.ErrNoteNumber
		}
		return api.Value{Kind: api.KindFloat, Bits: math.Float64bits(x)}, api.OK
	}
	return api.Value{}, api.ErrNoteText
}

// wholePlain tells a whole number by one of any size.
func wholePlain(s string) (api.Value, api.Errno) {
	n, _ := new(big.Int).SetString(s, 10)
	end := new(big.Int).Lsh(big.NewInt(1), 64)
	if s == "-0" || n.Cmp(end) >= 0 || n.Cmp(new(big.Int).Neg(end)) < 0 {
		return api.Value{}, api.ErrNoteNumber
	}
	if n.Sign() >= 0 {
		return api.Value{Kind: api.KindInt, N: n.Uint64()}, api.OK
	}
	return api.Value{Kind: api.KindInt, Neg: true, N: n.Not(n).Uint64()}, api.OK
}

// What may stand at a place.
const (
	anItem    = iota // an item
	anyItem          // an item, or the list's end
	aKey             // a key
	anyKey           // a key, or the map's end
	aColon           // a colon
	aComma           // a comma, or the end of what is open
	leftAlone        // nothing: the tree is whole
)

// machine goes through tokens: what is open, from the outermost on, each with the items that it has so far; the tree, as soon as it is whole.
type machine struct {
	open  []api.Value
	state int
	depth int
	tree  api.Value
}

// parsePlain tells what P10.2 says.
func parsePlain(s string, depth int) (api.Value, api.Fault) {
	if depth < 0 || depth > 1024 {
		return api.Value{}, api.Fault{Code: api.ErrNoteDepth}
	}
	m := machine{depth: depth}
	for _, one := range tokensOf(s) {
		if e := m.next(one.text); e != api.OK {
			return api.Value{}, api.Fault{Code: e, At: one.at}
		}
	}
	if m.state != leftAlone {
		return api.Value{}, api.Fault{Code: api.ErrNoteText, At: len(s)}
	}
	return m.tree, api.Fault{}
}

// next takes one token, or tells why it may not stand here.
func (m *machine) next(s string) api.Errno {
	itemWanted := m.state == anItem || m.state == anyItem
	keyWanted := m.state == aKey || m.state == anyKey
	switch {
	case m.state == leftAlone:
		return api.ErrNoteLeft
	case itemWanted && (s == "[" || s == "{"):
		return m.begin(s)
	case s == "]" && (m.state == anyItem || m.state == aComma && m.top().Kind == api.KindList),
		s == "}" && (m.state == anyKey || m.state == aComma && m.top().Kind == api.KindMap):
		last := *m.top()
		m.open = m.open[:len(m.open)-1]
		m.done(last)
	case s == "," && m.state == aComma && m.top().Kind == api.KindList:
		m.state = anItem
	case s == "," && m.state == aComma:
		m.state = aKey
	case s == ":" && m.state == aColon:
		m.state = anItem
	case strings.Contains("[]{},:", s):
		return api.ErrNoteText
	case keyWanted && s[0] == '"':
		return m.key(s)
	case itemWanted:
		v, e := leafOf(s)
		if e != api.OK {
			return e
		}
		m.done(v)
	default:
		return api.ErrNoteText
	}
	return api.OK
}

// top tells the innermost thing that is open.
func (m *machine) top() *api.Value { return &m.open[len(m.open)-1] }

// begin opens a list or a map.
func (m *machine) begin(s string) api.Errno {
	if len(m.open) >= m.depth {
		return api.ErrNoteDeep
	}
	if s == "[" {
		m.open, m.state = append(m.open, api.Value{Kind: api.KindList}), anyItem
	} else {
		m.open, m.state = append(m.open, api.Value{Kind: api.KindMap}), anyKey
	}
	return api.OK
}

// key takes a text as a key.
func (m *machine) key(s string) api.Errno {
	key, ok := textOf(s)
	if !ok {
		return api.ErrNoteText
	}
	if slices.Contains(m.top().Keys, key) {
		return api.ErrNoteKey
	}
	m.top().Keys, m.state = append(m.top().Keys, key), aColon
	return api.OK
}

// done lays an item into what is open, or is the tree.
func (m *machine) done(v api.Value) {
	if len(m.open) == 0 {
		m.tree, m.state = v, leftAlone
		return
	}
	m.top().Items, m.state = append(m.top().Items, v), aComma
}

// printPlain tells what P10.1 says of a tree.
func printPlain(v api.Value) string {
	var parts []string
	switch v.Kind {
	case api.KindNull:
		return "null"
	case api.KindBool:
		return fmt.Sprint(v.Flag)
	case api.KindInt:
		n := new(big.Int).SetUint64(v.N)
		if v.Neg {
			n.Not(n)
		}
		return n.String()
	case api.KindFloat:
		return number.Print(math.Float64frombits(v.Bits))
	case api.KindText:
		return quotedPlain(v.Text)
	case api.KindBytes:
		return fmt.Sprintf("#%x", v.Bytes)
	case api.KindLink:
		text, _ := link.Text(v.Link)
		return "&" + text
	case api.KindList:
		for _, item := range v.Items {
			parts = append(parts, printPlain(item))
		}
		return "[" + strings.Join(parts, ",") + "]"
	}
	keys := slices.Clone(v.Keys)
	slices.SortFunc(keys, func(a, b string) int {
		if len(a) != len(b) {
			return len(a) - len(b)
		}
		return strings.Compare(a, b)
	})
	for _, key := range keys {
		item, _ := value.Find(v, key)
		parts = append(parts, quotedPlain(key)+":"+printPlain(item))
	}
	return "{" + strings.Join(parts, ",") + "}"
}

// quotedPlain tells a text as it is printed.
func quotedPlain(s string) string {
	pairs := []string{"\n", `\n`, "\r", `\r`, "\t", `\t`, `"`, `\"`, `\`, `\\`}
	for c := range 32 {
		if !strings.Contains("\n\r\t", string(rune(c))) {
			pairs = append(pairs, string(rune(c)), fmt.Sprintf(`\u%04x`, c))
		}
	}
	return `"` + strings.NewReplacer(pairs...).Replace(s) + `"`
}
