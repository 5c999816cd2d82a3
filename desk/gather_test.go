package desk

// P22.2, P22.4: what begin, commit and cancel do, and what is gathered between them.

import (
	"fmt"
	"strings"
	"testing"

	"trellis/api"
)

// ops: a line of each kind of op, that can be carried out one behind the other.
func ops() []string {
	return []string{"set 0 main x 1", "delete 0 main tea", "append 0 main row 9", "branch 0 new side", "set 0 other k 1", "drop 0 side", "merge 0 main side theirs", "set 0 main x 2"}
}

// TestGathered: an op that is gathered tells nothing and changes no depot; commit carries all out as one Do.
func TestGathered(t *testing.T) {
	d, other := rich(t), rich(t)
	says(t, d, "begin 0")
	before := held(d.Depot(0))
	for _, line := range ops() {
		says(t, d, line)
		if held(d.Depot(0)) != before {
			t.Fatalf("%s: gathered, it has changed the depot", line)
		}
	}
	l, e := d.Depot(0).Heads(), api.OK
	says(t, d, `commit 0 "all at once"`, `"main"`, `"new"`, `"other"`, `"side"`)
	if now := d.Depot(0).Heads(); fmt.Sprint(l) != "[main side]" || fmt.Sprint(now) != "[main new other]" {
		t.Errorf("heads %q, then %q", l, now)
	}
	names, e := other.Depot(0).Do("all at once", opsOf(t)...)
	if e != api.OK || fmt.Sprint(names) != "[main new other side]" || held(other.Depot(0)) != held(d.Depot(0)) {
		t.Errorf("by one Do: %q, %d:\n%s\n%s", names, e, held(other.Depot(0)), held(d.Depot(0)))
	}
	says(t, d, "log 0 main 1", fmt.Sprintf("12 %s %s", rootOf(t, d, 0, "main"), `"all at once"`))
	says(t, d, "get 0 main x", "2")
	refuses(t, d, "commit 0 again", api.ErrDeskLine)
}

// opsOf: the ops of these lines.
func opsOf(t *testing.T) []api.Op {
	t.Helper()
	d := made(t)
	all(t, d, append([]string{"begin 0"}, ops()...)...)
	return d.row[0].ops
}

// TestNothingGathered: commit and cancel of nothing.
func TestNothingGathered(t *testing.T) {
	d := rich(t)
	for _, line := range []string{"commit 0 x", "cancel 0", `commit 0 ""`, "commit 1 " + strings.Repeat("n", 257)} {
		refuses(t, d, line, api.ErrDeskLine)
	}
	before := held(d.Depot(0))
	says(t, d, "begin 0")
	says(t, d, "commit 0 x")
	says(t, d, "begin 0")
	says(t, d, "cancel 0")
	refuses(t, d, "cancel 0", api.ErrDeskLine)
	refuses(t, d, "commit 0 x", api.ErrDeskLine)
	if held(d.Depot(0)) != before {
		t.Error("a commit of nothing has changed the depot")
	}
}

// TestBeginTwice: it is refused, and what is gathered stays so.
func TestBeginTwice(t *testing.T) {
	d := rich(t)
	all(t, d, "begin 0", "set 0 main x 1")
	refuses(t, d, "begin 0", api.ErrDeskLine)
	refuses(t, d, "begin 2", api.ErrDeskName)
	refuses(t, d, "begin 0 x", api.ErrDeskLine)
	does(t, d, "set 0 main y 1")
	says(t, d, "begin 1")
	refuses(t, d, "begin 1", api.ErrDeskLine)
	says(t, d, "commit 0 x", `"main"`)
	says(t, d, "get 0 main x", "1")
	says(t, d, "get 0 main y", "1")
	says(t, d, "begin 0")
	says(t, d, "cancel 1")
}

// TestCancel: none is gathered any more, and nothing has changed.
func TestCancel(t *testing.T) {
	d := rich(t)
	before := state(d)
	all(t, d, append([]string{"begin 0"}, ops()...)...)
	says(t, d, "cancel 0")
	if state(d) != before {
		t.Error("something is left of what was gathered")
	}
	says(t, d, "set 0 main x 1", `"main"`)
	all(t, d, "begin 0")
	says(t, d, "commit 0 x")
	says(t, d, "get 0 main x", "1")
}

// TestRefusedCommit: whatever refuses it, the depot is as it was, and nothing is gathered any more.
func TestRefusedCommit(t *testing.T) {
	for line, want := range map[string]api.Errno{
		"commit 0 " + strings.Repeat("n", 257):  api.ErrDepotNote,
		"commit 0 try":                          api.ErrDepotHead,
		`commit 0 ""`:                           api.ErrDepotHead,
		"commit 0 " + strings.Repeat("n", 4000): api.ErrDepotNote,
	} {
		d := rich(t)
		all(t, d, "begin 1", "set 1 main y 1")
		before := state(d)
		all(t, d, append([]string{"begin 0"}, ops()...)...)
		does(t, d, "drop 0 never")
		if l, e := d.Say(line); l != nil || e != want {
			t.Errorf("%s: %q, %d; want %d", line, l, e, want)
		}
		if state(d) != before {
			t.Errorf("%s: refused by %d, it has changed something, or something is gathered still", line, want)
		}
		refuses(t, d, "commit 0 try", api.ErrDeskLine)
		says(t, d, "set 0 main x 1", `"main"`)
	}
	// A line that is no commit ends nothing.
	d := rich(t)
	all(t, d, "begin 0", "set 0 main x 1")
	for _, line := range []string{"commit 0", "commit 0 a b", "commit", `commit 0 "`, "commit 00 x", `commit "0" x`, "cancel 0 x", "cancel", "cancel 00"} {
		refuses(t, d, line, api.ErrDeskLine)
	}
	refuses(t, d, "commit 2 x", api.ErrDeskName)
	refuses(t, d, "cancel 2", api.ErrDeskName)
	refuses(t, d, "commit 1 x", api.ErrDeskLine)
	says(t, d, "commit 0 x", `"main"`)
}

// TestMaxOps: as many ops as a Do may have, and one more, which is not gathered.
func TestMaxOps(t *testing.T) {
	d := made(t)
	does(t, d, "begin 0")
	for i := range api.MaxOps {
		says(t, d, fmt.Sprintf("set 0 main k%d 1", i))
	}
	for _, line := range []string{"set 0 main more 1", "drop 0 main", "merge 0 main main", "append 0 main row 1", "set 0 main more 1"} {
		refuses(t, d, line, api.ErrDepotFull)
	}
	refuses(t, d, "append 0 main row 1e99", api.ErrNumberRange)
	refuses(t, d, "set 0 main more", api.ErrDeskLine)
	says(t, d, "set 1 main more 1", `"main"`)
	refuses(t, d, "begin 0", api.ErrDeskLine)
	says(t, d, "commit 0 full", `"main"`)
	says(t, d, "get 0 main more", "none")
	if n := len(does(t, d, "all 0 main")); n != api.MaxOps {
		t.Errorf("%d entries", n)
	}
	says(t, d, "log 0 main 9", lineOf("1", rootOf(t, d, 0, "main"), `"full"`))
	all(t, d, "begin 0", "set 0 main more 1")
	says(t, d, "commit 0 x", `"main"`)
}

// TestBeside: lines for another depot, and lines that ask or carry for the same one, do what they do at any time.
func TestBeside(t *testing.T) {
	d, other := rich(t), rich(t)
	all(t, d, "begin 0", "set 0 main tea 9", "drop 0 side", "set 0 new k 1")
	gathered := fmt.Sprintf("%+v", d.row[0].ops)
	lines := askingLines(t, other)
	lines = append(lines, "get 0 new k", "all 0 new", "log 0 side 9", "set 1 main k 1", "append 1 main row 1 2", "branch 1 b main", "drop 1 other",
		"begin 1", "set 1 main k 2", "cancel 1", "begin 1", "set 1 main k 3", "get 1 main k", "commit 1 x", "get 1 main k", "commit 1 x",
		"blocks 0", "lose 0 "+named(lost("never")), "force 0 "+named(lost("new"))+" #00", "blocks 0", "sweep 0", "blocks 0",
		"copy 1 main 0 copied", "fetch 0 fetched 1 main 3", "copy 0 copied 1 back", "heads 0", "heads 1", "check 0", "check 1")
	for _, line := range lines {
		if a, b := answer(d, line), answer(other, line); a != b {
			t.Errorf("%s: %s, where ops are gathered; else %s", line, a, b)
		}
	}
	if fmt.Sprintf("%+v", d.row[0].ops) != gathered || held(d.Depot(0)) != held(other.Depot(0)) || held(d.Depot(1)) != held(other.Depot(1)) {
		t.Error("the depots, or what is gathered, are not as they are to be")
	}
	says(t, d, "commit 0 late", `"main"`, `"new"`, `"side"`)
	says(t, d, "get 0 main tea", "9")
}

// TestOpsAsTheyWere: what is gathered is what the lines said, whatever is done until it is carried out.
func TestOpsAsTheyWere(t *testing.T) {
	d := rich(t)
	all(t, d, "begin 0", "merge 0 side main theirs", "append 0 side row 1")
	// By now main is another one.
	if _, e := d.Depot(0).Do("", api.Op{Kind: api.OpSet, Head: "main", Key: []byte("tea"), Value: treeOfText(t, "77")}); e != api.OK {
		t.Fatal(e)
	}
	says(t, d, "commit 0 x", `"side"`)
	says(t, d, "get 0 side tea", "77")
	says(t, d, "count 0 side row", "10")
}
