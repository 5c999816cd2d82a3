package desk

// W14, P22.2, P22.4: rolled lines, right and wrong, each held against the plain reading; and what is no line changes nothing.

import (
	"fmt"
	"slices"
	"strings"
	"testing"

	"trellis/api"
	"trellis/sample"
)

// script: what rolled lines speak of.
type script struct {
	*sample.Dice
	*plain
	links []string // of blocks that have stood somewhere
	told  []string // what lines have told, to be said again
	wrong int      // one word out of so many is another one than is wanted
}

// word: a word for a capital word, most often one that does something.
func (s *script) word(capital string) string {
	switch capital {
	case "D":
		return pick(s.Dice, []string{"0", "0", "0", "1"})
	case "NAME":
		return pick(s.Dice, []string{"main", "main", "side", `"main"`, `"a b"`, "b", `"\u0062"`})
	case "KEY":
		return pick(s.Dice, []string{"tea", "milk", "row", "row", "sets", `"row"`, "#00ff", "#", `"a b"`, "k1", "k2", "k3", "k4", "#0", "#726f77"})
	case "TREE":
		if s.Below(3) == 0 {
			return pick(s.Dice, s.links)
		}
		return free(s.Dice, s.Tree(2))
	case "NUMBER":
		return pick(s.Dice, []string{"0", "1", "1", "2", "3", "4", "5", "8", "9", "1024", "2147483647"})
	case "FLOAT":
		if s.Below(40) == 0 {
			return "-1e39"
		}
		return anySample(s.Dice)
	case "LINK":
		return pick(s.Dice, s.links)
	}
	form := formOf(s.Tree(2))
	if s.Below(2) == 0 {
		form = altered(s.Dice, form)
	}
	return hex(form)
}

// anyWord: a word of whatever kind.
func (s *script) anyWord() string {
	odd := []string{"x", `""`, `"`, "01", "2", "9", "ours", "theirs", "#0A", "&x", "-1", "1.5", "1e99", "[1]", `a"b`, `"a"b`, "\u00a0", "set", "2147483648", "\xff", "\n"}
	if s.Below(3) == 0 {
		return s.word(pick(s.Dice, []string{"D", "NAME", "KEY", "TREE", "NUMBER", "FLOAT", "LINK", "HEX"}))
	}
	return pick(s.Dice, odd)
}

// line: some line, most often a row of the table.
func (s *script) line() string {
	heavy := []string{
		"set D NAME KEY TREE", "set D NAME KEY TREE", "append D NAME row FLOAT+", "append D NAME row FLOAT+", "branch D NAME NAME", "merge D NAME NAME theirs",
		"delete D NAME KEY", "begin D", "commit D NAME", "count D NAME row", "sum D NAME row 0 NUMBER", "ends D NAME row 0 1", "ends D NAME row 0 NUMBER",
		"copy D NAME D new", "fetch D new D NAME 2", "drop D new",
	}
	row := pick(s.Dice, rows())
	if s.Below(2) == 0 {
		row = pick(s.Dice, heavy)
	}
	if row == "verify LINK KEY HEX+" && s.Below(3) > 0 {
		return s.proof()
	}
	var words []string
	for _, w := range strings.Fields(row) {
		one, several := strings.CutSuffix(w, "+")
		switch {
		case s.Below(s.wrong) == 0:
			words = append(words, s.anyWord())
		case patterns[one] != "":
			words = append(words, s.word(one))
			for several && s.Below(3) > 0 {
				words = append(words, s.word(one))
			}
		default:
			words = append(words, w)
		}
	}
	if s.Below(4*s.wrong) == 0 {
		words = words[:s.Below(len(words))]
	}
	if s.Below(4*s.wrong) == 0 {
		words = append(words, s.anyWord())
	}
	line := strings.Join(words, strings.Repeat(" ", 1+s.Below(2)))
	if s.Below(4*s.wrong) == 0 {
		line = string(altered(s.Dice, []byte(line)))
	}
	return line
}

// proof: a line that asks whether a proof is taken.
func (s *script) proof() string {
	key := s.word("KEY")
	blocks, _ := s.say("prove 0 main " + key)
	log, _ := s.say("log 0 main 1")
	if len(log) == 0 {
		return ""
	}
	if s.Below(3) == 0 {
		key = s.word("KEY")
	}
	return lineOf("verify", strings.Fields(log[0])[1], key, lineOf(blocks...))
}

// runs a script of so many lines, held against the plain reading; how many were carried out, and how many refused by each error.
func runs(t *testing.T, seed, lines, depots, room int, c api.Trie, width, wrong int) (int, map[api.Errno]int) {
	t.Helper()
	dice := sample.Dice(seed)
	s := &script{Dice: &dice, plain: plainOf(t, depots, room, c, width), links: []string{named(lost("x"))}, wrong: wrong}
	d := madeOf(t, depots, room, c, width)
	done, refused := 0, map[api.Errno]int{}
	for i := range lines {
		line := s.line()
		before := state(d)
		want, bad := s.say(line)
		got, e := d.Say(line)
		if e != bad || !slices.Equal(got, want) || e != api.OK && got != nil {
			t.Fatalf("script %d, line %d, %q: %q, %d; want %q, %d", seed, i, line, got, e, want, bad)
		}
		now := state(d)
		if now != s.state() {
			t.Fatalf("script %d, line %d, %q: the desk is\n%s\nwant\n%s", seed, i, line, now, s.state())
		}
		if e == api.OK {
			done++
		} else {
			refused[e]++
			if now != before && s.name != "commit" {
				t.Fatalf("script %d, line %d, %q: refused by %d, it has changed the desk", seed, i, line, e)
			}
		}
		if e == api.ErrDeskLine && now != before {
			t.Fatalf("script %d, line %d, %q: no line, it has changed the desk", seed, i, line)
		}
		for _, x := range s.depots {
			if all := x.Store().Links(); len(all) > 0 && len(s.links) < 60 {
				s.links = append(s.links, named(pick(&dice, all)))
			}
		}
	}
	return done, refused
}

// TestScripts: lines of all rows, on desks of all widths.
func TestScripts(t *testing.T) {
	done, refused := 0, map[api.Errno]int{}
	for i := range 40 {
		c := []api.Trie{wide, narrow, {Width: 1, Bucket: 1, Bytes: 4}, {Width: 8, Bucket: 16, Bytes: 32}}[i%4]
		n, errs := runs(t, 1400+i, 120, 1+i%4, []int{1000, 24, 40}[i%3], c, 1+i%8, []int{12, 40, 200}[i%3])
		done += n
		for e, n := range errs {
			refused[e] += n
		}
	}
	for _, e := range []api.Errno{api.ErrDeskLine, api.ErrDeskName, api.ErrDepotHead, api.ErrDepotRow, api.ErrStoreNone, api.ErrStoreBad, api.ErrStoreFull, api.ErrColumnRange, api.ErrNumberRange, api.ErrPullPlan} {
		if refused[e] == 0 {
			t.Errorf("no line was refused by %d", e)
		}
	}
	if done < 1500 {
		t.Errorf("%d lines were carried out; refused: %v", done, refused)
	}
}

// TestSpoiltLines: lines of all rows, cut, lengthened, with other bytes in them.
func TestSpoiltLines(t *testing.T) {
	dice := sample.Dice(14)
	d, p := made(t), plainOf(t, 2, 1000, wide, 4)
	for _, line := range goodLines(t) {
		if len(line) > 200 {
			continue
		}
		for range 12 {
			b := []byte(line)
			at := dice.Below(len(b) + 1)
			odd := pick(&dice, []string{" ", " ", `"`, `"`, `\`, "#", "&", "0", "9", ",", "\u00a0", "\x80", "\x1f", "x", "A", "."})
			if dice.Below(2) == 0 && at < len(b) {
				b = append(b[:at], b[at+1:]...)
			} else {
				b = slices.Insert(b, at, []byte(odd)...)
			}
			want, bad := p.say(string(b))
			got, e := d.Say(string(b))
			if e != bad || !slices.Equal(got, want) {
				t.Fatalf("%q: %q, %d; want %q, %d", b, got, e, want, bad)
			}
		}
	}
	if state(d) != p.state() {
		t.Errorf("the desk is\n%s\nwant\n%s", state(d), p.state())
	}
}

// TestAgain (R6): one script twice, on two desks: one row of answers.
func TestAgain(t *testing.T) {
	dice := sample.Dice(6)
	s := &script{Dice: &dice, plain: plainOf(t, 2, 1000, wide, 2), links: []string{named(lost("x"))}, wrong: 50}
	a, b := madeOf(t, 2, 1000, wide, 2), madeOf(t, 2, 1000, wide, 2)
	for i := range 150 {
		line := s.line()
		s.say(line)
		if one, two := answer(a, line), answer(b, line); one != two {
			t.Fatalf("line %d, %q: %s, and %s", i, line, one, two)
		}
	}
	if state(a) != state(b) {
		t.Error(fmt.Sprint("two desks of one script are two:\n", state(a), "\n", state(b)))
	}
}
