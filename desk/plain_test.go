package desk

// The chapter read a second time, plainly: each row of its table as a pattern, and what it does by one call after the other.

import (
	"fmt"
	"regexp"
	"strconv"
	"strings"
	"testing"

	"trellis/api"
	"trellis/change"
	"trellis/column"
	"trellis/depot"
	"trellis/lay"
	"trellis/link"
	"trellis/loose"
	"trellis/note"
	"trellis/number"
	"trellis/proof"
	"trellis/read"
)

// table: the lines, as the chapter has them.
const table = `set D NAME KEY TREE
delete D NAME KEY
append D NAME KEY FLOAT+
branch D NAME NAME
drop D NAME
merge D NAME NAME ours
merge D NAME NAME theirs
merge D NAME NAME
begin D
commit D NAME
cancel D
get D NAME KEY
all D NAME
heads D
log D NAME NUMBER
prove D NAME KEY
verify LINK KEY HEX+
diff D NAME NAME
count D NAME KEY
sum D NAME KEY NUMBER NUMBER
ends D NAME KEY NUMBER NUMBER
sweep D
check D
blocks D
lose D LINK
force D LINK HEX
copy D NAME D NAME
fetch D NAME D NAME NUMBER
lay TREE
read HEX NUMBER
loose HEX NUMBER`

// rows: the rows of the table.
func rows() []string { return strings.Split(table, "\n") }

// patterns: what the words may be, as far as a pattern tells it.
var patterns = map[string]string{
	"D":      `(0|[1-9][0-9]*)`,
	"NUMBER": `(0|[1-9][0-9]*)`,
	"NAME":   `("(?:[^"\\]|\\.)*"|[^ "]+)`,
	"KEY":    `("(?:[^"\\]|\\.)*"|[^ "]+)`,
	"FLOAT":  `(-?(?:0|[1-9][0-9]*)(?:\.[0-9]+)?(?:[eE][-+]?[0-9]+)?)`,
	"LINK":   `(&[a-zA-Z0-9]*)`,
	"HEX":    `(#(?:[0-9a-f][0-9a-f])*)`,
	"TREE":   `(.*)`,
}

// patternOf: the pattern of a row.
func patternOf(row string) *regexp.Regexp {
	whole := "^ *"
	for i, w := range strings.Fields(row) {
		if i > 0 {
			whole += " +"
		}
		one, several := strings.CutSuffix(w, "+")
		p, is := patterns[one]
		if !is {
			p = one
		}
		if several {
			p = "(" + p + "(?: +" + p + ")*)"
			p = strings.ReplaceAll(p, "(-?", "(?:-?")
			p = strings.ReplaceAll(p, "(#", "(?:#")
		}
		whole += p
	}
	return regexp.MustCompile(whole + " *$")
}

// plainRow: a row, its pattern, and its capital words.
type plainRow struct {
	name, own string
	pattern   *regexp.Regexp
	capitals  []string
}

// plainRows: those of the table.
var plainRows = func() []plainRow {
	var list []plainRow
	for _, row := range rows() {
		r := plainRow{pattern: patternOf(row)}
		for i, w := range strings.Fields(row) {
			_, is := patterns[strings.TrimSuffix(w, "+")]
			switch {
			case i == 0:
				r.name = w
			case is:
				r.capitals = append(r.capitals, strings.TrimSuffix(w, "+"))
			default:
				r.own = w
			}
		}
		list = append(list, r)
	}
	return list
}()

// plain: a desk, read plainly: its depots, and for which of them what is gathered.
type plain struct {
	depots   []*depot.Depot
	gathered map[int][]api.Op
	name     string
	own      string
	d        []int
	names    []string
	key      []byte
	tree     api.Value
	samples  []float32
	wide     bool
	numbers  []int
	link     api.Link
	octets   [][]byte
}

// plainOf: a plain desk.
func plainOf(t *testing.T, depots, room int, c api.Trie, width int) *plain {
	t.Helper()
	p := &plain{gathered: map[int][]api.Op{}}
	for range depots {
		d, e := depot.New(room, c, width)
		if e != api.OK {
			t.Fatal(e)
		}
		p.depots = append(p.depots, d)
	}
	return p
}

// say: what a line does.
func (p *plain) say(line string) ([]string, api.Errno) {
	if len(line) > 4096 || strings.ToValidUTF8(line, "?") != line {
		return nil, api.ErrDeskLine
	}
	for i := range len(line) {
		if line[i] < 32 {
			return nil, api.ErrDeskLine
		}
	}
	if strings.Trim(line, " ") == "" {
		return nil, api.OK
	}
	for _, r := range plainRows {
		if m := r.pattern.FindStringSubmatch(line); m != nil && p.means(r, m[1:]) {
			for _, i := range p.d {
				if i < 0 || i >= len(p.depots) {
					return nil, api.ErrDeskName
				}
			}
			return p.does()
		}
	}
	return nil, api.ErrDeskLine
}

// means: whether the words of a row have a meaning.
func (p *plain) means(r plainRow, words []string) bool {
	*p = plain{depots: p.depots, gathered: p.gathered, name: r.name, own: r.own}
	for i, capital := range r.capitals {
		if !p.mean(capital, words[i]) {
			return false
		}
	}
	return true
}

func (p *plain) mean(capital, w string) bool {
	switch capital {
	case "D":
		i := -1
		if len(w) == 1 {
			i = int(w[0] - '0')
		}
		p.d = append(p.d, i)
	case "NUMBER":
		n, err := strconv.ParseUint(w, 10, 64)
		p.numbers = append(p.numbers, int(n))
		return err == nil && n < 1<<31
	case "NAME", "KEY":
		return p.word(capital, w)
	case "FLOAT":
		for _, one := range strings.Fields(w) {
			x, e := number.Parse32(one)
			p.samples = append(p.samples, x)
			p.wide = p.wide || e != api.OK
		}
	case "LINK":
		l, e := link.ParseText(w[1:])
		p.link = l
		return e == api.OK
	case "HEX":
		for _, one := range strings.Fields(w) {
			p.octets = append(p.octets, plainBytes(one))
		}
	case "TREE":
		v, f := note.Parse(w, 1024)
		p.tree = v
		return f.Code == api.OK
	}
	return true
}

// word: what a name or a key says.
func (p *plain) word(capital, w string) bool {
	says := w
	if w[0] == '"' {
		v, f := note.Parse(w, 0)
		if f.Code != api.OK {
			return false
		}
		says = v.Text
	}
	if capital == "NAME" {
		p.names = append(p.names, says)
		return true
	}
	p.key = []byte(says)
	if regexp.MustCompile("^" + patterns["HEX"] + "$").MatchString(w) {
		p.key = plainBytes(w)
	}
	return true
}

// plainBytes: the bytes of a HEX.
func plainBytes(w string) []byte {
	b := []byte{}
	for i := 1; i < len(w); i += 2 {
		n, _ := strconv.ParseUint(w[i:i+2], 16, 8)
		b = append(b, byte(n))
	}
	return b
}

// does: what the row does.
func (p *plain) does() ([]string, api.Errno) {
	switch p.name {
	case "set", "delete", "append", "branch", "drop", "merge":
		return p.op()
	case "begin", "commit", "cancel":
		return p.gathering()
	case "get", "all", "heads", "log":
		return p.ask()
	case "prove", "verify", "diff":
		return p.proofs()
	case "count", "sum", "ends":
		return p.column()
	case "lay", "read", "loose":
		return p.trees()
	}
	return p.whole()
}

// op: an op, carried out or gathered.
func (p *plain) op() ([]string, api.Errno) {
	x := api.Op{Head: p.names[0], Key: p.key, Value: p.tree, Samples: p.samples}
	if len(p.names) > 1 {
		x.Other = p.names[1]
	}
	x.Kind = map[string]int{"set": 1, "delete": 2, "append": 3, "branch": 4, "drop": 5, "merge": 6}[p.name]
	x.Ours, x.Theirs = p.own == "ours", p.own == "theirs"
	if p.wide {
		return nil, api.ErrNumberRange
	}
	ops, gathers := p.gathered[p.d[0]]
	switch {
	case !gathers:
		return p.do("", x)
	case len(ops) == 64:
		return nil, api.ErrDepotFull
	}
	p.gathered[p.d[0]] = append(ops, x)
	return nil, api.OK
}

func (p *plain) do(note string, ops ...api.Op) ([]string, api.Errno) {
	names, e := p.depots[p.d[0]].Do(note, ops...)
	var lines []string
	for _, name := range names {
		lines = append(lines, quoted(name))
	}
	return lines, e
}

func (p *plain) gathering() ([]string, api.Errno) {
	ops, gathers := p.gathered[p.d[0]]
	switch {
	case gathers == (p.name == "begin"):
		return nil, api.ErrDeskLine
	case p.name == "begin":
		p.gathered[p.d[0]] = []api.Op{}
		return nil, api.OK
	}
	delete(p.gathered, p.d[0])
	if p.name == "cancel" {
		return nil, api.OK
	}
	return p.do(p.names[0], ops...)
}

func (p *plain) ask() ([]string, api.Errno) {
	d := p.depots[p.d[0]]
	var lines []string
	switch p.name {
	case "get":
		v, is, e := d.Get(p.names[0], p.key)
		return maybe(plainNone(v, is), e)
	case "all":
		l, e := d.Entries(p.names[0])
		for _, x := range l {
			lines = append(lines, plainKey(x.Key)+" "+text(x.Value))
		}
		return lines, e
	case "heads":
		for _, name := range d.Heads() {
			l, _ := d.Head(name)
			lines = append(lines, quoted(name)+" "+named(l))
		}
		return lines, api.OK
	}
	l, e := d.Log(p.names[0], p.numbers[0])
	for _, c := range l {
		lines = append(lines, fmt.Sprintf("%d %s %s", c.At, named(c.Root), quoted(c.Note)))
	}
	return lines, e
}

func (p *plain) proofs() (lines []string, e api.Errno) {
	if p.name == "verify" {
		v, is, e := proof.Verify(p.link, p.key, p.octets)
		return maybe(plainNone(v, is), e)
	}
	d := p.depots[p.d[0]]
	for _, name := range p.names {
		if _, is := d.Head(name); !is {
			return nil, api.ErrDepotHead
		}
	}
	var roots []api.Link
	for _, name := range p.names {
		l, _ := d.Head(name)
		c, e := d.Commit(l)
		if e != api.OK {
			return nil, e
		}
		roots = append(roots, c.Root)
	}
	if p.name == "prove" {
		blocks, e := proof.Prove(d.Store(), roots[0], p.key)
		for _, b := range blocks {
			lines = append(lines, hex(b))
		}
		return lines, e
	}
	changes, e := change.Diff(d.Store(), roots[0], roots[1])
	for _, c := range changes {
		lines = append(lines, plainKey(c.Key)+" "+plainNone(c.Old, c.Had)+" "+plainNone(c.New, c.Has))
	}
	return lines, e
}

func (p *plain) column() ([]string, api.Errno) {
	d := p.depots[p.d[0]]
	v, is, e := d.Get(p.names[0], p.key)
	switch {
	case e != api.OK:
		return nil, e
	case !is || v.Kind != api.KindLink:
		return nil, api.ErrDepotRow
	case p.name == "count":
		n, e := column.Len(d.Store(), v.Link)
		return maybe(strconv.Itoa(n), e)
	case p.name == "sum":
		x, e := column.Sum(d.Store(), v.Link, p.numbers[0], p.numbers[1])
		return maybe(number.Print(x), e)
	}
	least, greatest, e := column.Ends(d.Store(), v.Link, p.numbers[0], p.numbers[1])
	return maybe(number.Print32(least)+" "+number.Print32(greatest), e)
}

func (p *plain) trees() ([]string, api.Errno) {
	switch p.name {
	case "lay":
		b, e := lay.Encode(p.tree)
		return maybe(hex(b), e)
	case "read":
		v, f := read.Decode(p.octets[0], p.numbers[0])
		if f != (api.Fault{}) {
			return []string{fmt.Sprintf("fault %d %d", f.Code, f.At)}, api.OK
		}
		return []string{text(v)}, api.OK
	}
	v, notes, f := loose.Parse(p.octets[0], p.numbers[0])
	if f != (api.Fault{}) {
		return []string{fmt.Sprintf("fault %d %d", f.Code, f.At)}, api.OK
	}
	lines := []string{text(v)}
	for _, n := range notes {
		lines = append(lines, fmt.Sprintf("note %d %d", n.What, n.At))
	}
	return lines, api.OK
}

func (p *plain) whole() ([]string, api.Errno) {
	d := p.depots[p.d[0]]
	switch p.name {
	case "sweep":
		n, e := d.Sweep()
		return maybe(strconv.Itoa(n), e)
	case "check":
		n, e := d.Check()
		return maybe(strconv.Itoa(n), e)
	case "blocks":
		return []string{fmt.Sprintf("%d %d", d.Store().Len(), d.Store().Size())}, api.OK
	case "lose":
		return []string{map[bool]string{true: "yes", false: "no"}[d.Store().Delete(p.link)]}, api.OK
	case "force":
		return nil, d.Store().Force(p.link, p.octets[0])
	case "copy":
		b, e := d.Export(p.names[0])
		if e != api.OK {
			return nil, e
		}
		n, f := p.depots[p.d[1]].Import(p.names[1], b)
		return maybe(strconv.Itoa(n), f.Code)
	}
	n, e := d.Fetch(p.depots[p.d[1]], p.names[1], p.names[0], p.numbers[0])
	return maybe(strconv.Itoa(n), e)
}

// maybe: a line, unless there is an error.
func maybe(line string, e api.Errno) ([]string, api.Errno) {
	if e != api.OK {
		return nil, e
	}
	return []string{line}, api.OK
}

func plainNone(v api.Value, is bool) string {
	if is {
		return text(v)
	}
	return "none"
}

func plainKey(key []byte) string {
	if s := string(key); strings.ToValidUTF8(s, "") == s {
		return quoted(s)
	}
	return hex(key)
}

// state: all that the depots are, and what is gathered.
func (p *plain) state() string {
	var all strings.Builder
	for i, d := range p.depots {
		ops, gathers := p.gathered[i]
		fmt.Fprintf(&all, "%s%v%+v\n", held(d), gathers, ops)
	}
	return all.String()
}
