package desk

import (
	"strconv"
	"strings"

	"trellis/api"
	"trellis/link"
	"trellis/note"
	"trellis/number"
)

// order: what a line's words say, of each kind in their order.
type order struct {
	all     row     // the desk's
	depots  []*seat // nil where there is no such depot
	names   []string
	key     []byte
	tree    api.Value
	samples []float32
	beyond  bool // whether one of these is too great
	numbers []int
	link    api.Link
	octets  [][]byte
	side    string
}

// fill takes the words that the capital words of a command ask for; whether these are all that are left, and each of them may be. Of one with a + behind it there may be several words, of one with a ? none.
func (o *order) fill(r *reader, capitals string) bool {
	for _, capital := range strings.Fields(capitals) {
		one, several := strings.CutSuffix(capital, "+")
		one, maybe := strings.CutSuffix(one, "?")
		if maybe && r.isDone() {
			continue
		}
		good := o.next(r, one)
		for good && several && !r.isDone() {
			good = o.next(r, one)
		}
		if !good {
			return false
		}
	}
	return r.isDone()
}

// next takes what stands next, as a capital word says.
func (o *order) next(r *reader, capital string) (good bool) {
	if capital == "TREE" {
		o.tree, good = r.tree()
		return good
	}
	w, good := r.word()
	return good && o.take(w, capital)
}

// take takes a word, as a capital word says.
func (o *order) take(w word, capital string) (good bool) {
	switch capital {
	case "NAME":
		// What is gathered, and a depot's heads, outlive the line.
		o.names = append(o.names, strings.Clone(w.says))
		return true
	case "KEY":
		o.key = keyOf(w)
		return true
	}
	// All others are bare words.
	return w.bare && o.takeBare(w.says, capital)
}

func (o *order) takeBare(s, capital string) (good bool) {
	switch capital {
	case "D":
		return o.takeDepot(s)
	case "NUMBER":
		return o.takeNumber(s)
	case "FLOAT":
		return o.takeSample(s)
	case "LINK":
		return o.takeLink(s)
	case "HEX":
		b, good := bytesOf(s)
		o.octets = append(o.octets, b)
		return good
	}
	// What is left is SIDE.
	o.side = s
	return s == "ours" || s == "theirs"
}

func (o *order) takeDepot(s string) bool {
	i, err := strconv.Atoi(s)
	if err != nil {
		// Of more digits than a number has here there is no depot either.
		i = -1
	}
	o.depots = append(o.depots, o.all.at(i))
	return areDigits(s)
}

func (o *order) takeNumber(s string) bool {
	n, err := strconv.ParseInt(s, 10, 32)
	o.numbers = append(o.numbers, int(n))
	return err == nil && areDigits(s)
}

func (o *order) takeSample(s string) bool {
	x, e := number.Parse32(s)
	o.samples = append(o.samples, x)
	o.beyond = o.beyond || e == api.ErrNumberRange
	return e != api.ErrNumberText
}

func (o *order) takeLink(s string) bool {
	text, is := strings.CutPrefix(s, "&")
	l, e := link.ParseText(text)
	o.link = l
	return is && e == api.OK
}

// areDigits tells whether a word is the digits of a number, without a needless 0.
func areDigits(s string) bool {
	for i := range len(s) {
		if s[i] < '0' || s[i] > '9' {
			return false
		}
	}
	return s == "0" || s != "" && s[0] != '0'
}

// bytesOf tells the bytes of a HEX, which are written as those of a tree are.
func bytesOf(s string) ([]byte, bool) {
	if !strings.HasPrefix(s, "#") {
		return nil, false
	}
	v, f := note.Parse(s, 0)
	return v.Bytes, f.Code == api.OK
}

// keyOf tells the bytes of a key.
func keyOf(w word) []byte {
	if b, is := bytesOf(w.says); is && w.bare {
		return b
	}
	return []byte(w.says)
}
