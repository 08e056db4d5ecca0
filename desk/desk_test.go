package desk_test

import (
	"fmt"
	"math/rand"
	"strings"
	"testing"

	"stackyard/api"
	"stackyard/desk"
)

func script(lines ...string) string { return strings.Join(lines, "\n") }

// prints checks what a script prints, line by line.
func prints(t *testing.T, text string, want ...string) {
	t.Helper()
	s, at, e := desk.Run(text)
	if at != 0 || e != 0 {
		t.Fatal(at, e)
	}
	lines := ""
	for _, line := range want {
		lines += line + "\n"
	}
	if s != lines {
		t.Errorf("%q\nnot %q", s, lines)
	}
}

// fails checks that a script is not executed.
func fails(t *testing.T, text string, at int, e api.Errno) {
	t.Helper()
	if s, gotAt, gotE := desk.Run(text); s != "" || gotAt != at || gotE != e {
		t.Errorf("%.80q: %q %d %d", text, s, gotAt, gotE)
	}
}

var start = script("cluster 3 1000000", "lead 2", `create "a int, b text null"`, "ingest 7 1 2 5 'x' 6 null", "")

func TestExamples(t *testing.T) {
	prints(t, start, "ok", "ok", "ok 0", "ok 2")
	prints(t, start+`query "select b as k, a as v order by v desc"`, "ok", "ok", "ok 0", "ok 2", "row null 6", "row 'x' 5", "end 2")
	prints(t, start+script("crash 2", "parts", "lead 1", "parts"), "ok", "ok", "ok 0", "ok 2", "ok", "error 210", "ok", "parts 2")
	fails(t, script("# nothing", "ingest 7 1 2 x"), 2, api.ErrDeskLine)
	fails(t, "merge 1", 1, api.ErrDeskLine)
	prints(t, script("cluster 3 1000000", "lead 2", `create "a int"`, "ingest 7 1 1 5 6", `query "select sum(a) as s"`), "ok", "ok", "ok 0", "ok 2", "row 11", "end 1")
	prints(t, "")
	prints(t, "\n \n#\n")
}

func TestWithoutClusterOrLeader(t *testing.T) {
	all := script("lead 1", "create x", "ingest 0 0 0", "merge", "query x", "compact", "crash 1", "parts")
	one := "error 1"
	prints(t, all, one, one, one, one, one, one, one, one)
	no := "error 210"
	prints(t, script("cluster 2 1000", "create x", "ingest 0 0 0", "merge", "query x", "compact", "parts", "crash 1", "parts", "lead 1", "lead 2", "crash 1", "parts", "crash 2", "parts"),
		"ok", no, no, no, no, no, no, "ok", no, "ok", "ok", "ok", "parts", "ok", no)
	prints(t, script("cluster 8 1000", "lead 1", "cluster 3 16777217", "lead 1", "cluster 0 0", "cluster 3 1", "parts", "cluster 1 100", "lead 1", "parts", "cluster 9 9", "parts"),
		"error 2", one, "error 2", one, "error 2", "error 181", one, "ok", "ok", "parts", "error 2", one)
	prints(t, script("cluster 3 1000", "lead 0", "lead 4", "crash 0", "crash 4", "lead 999999999999999999", "lead 1", "lead 4", "parts", "crash 4", "parts", "cluster 3 1000", "parts"),
		"ok", "error 2", "error 2", "error 2", "error 2", "error 2", "ok", "error 2", "parts", "error 2", "parts", "ok", no)
}

// runs checks a script whose lines each stand ahead of what they print.
func runs(t *testing.T, pairs ...string) {
	t.Helper()
	var lines, want []string
	for i := 0; i < len(pairs); i += 2 {
		lines = append(lines, pairs[i])
		if pairs[i+1] != "" {
			want = append(want, strings.Split(pairs[i+1], "\n")...)
		}
	}
	prints(t, script(lines...), want...)
}

func TestCommands(t *testing.T) {
	runs(t,
		"cluster 1 100000", "ok", "lead 1", "ok", "query x", "error 110", `query "select 1 as x"`, "error 50", "ingest 1 1 1 5", "error 50", "ingest 1 1 1", "error 2", "ingest 1 1 0", "error 2", "ingest 1 1 0 5", "error 2", "ingest 1 1 2 5", "error 2", "ingest 1 0 1 5", "error 2",
		"merge", "error 2", "create a", "error 50", `create ""`, "error 50", `create "a int,b text"`, "error 50", `create "a int"`, "ok 0", `create "b int"`, "error 2", "ingest 1 1 1 5", "ok 1", "ingest 1 2 1 'x'", "error 51", "ingest 2 1 2 5 6", "error 51", "ingest 3 1 3 5 6", "error 2",
		"ingest 1 2 1 6 -7", "ok 3", "ingest 1 2 1 9", "ok 3", "ingest 1 1 1 5", "error 2", `query "select a as a order by a"`, "row -7\nrow 5\nrow 6\nend 3", "parts", "parts 1 2", "merge", "ok 1", "parts", "parts 3", "merge", "error 2", "compact", "ok", "ingest 1 3 1 8", "ok 4", "parts", "parts 3 1",
		`query "select a / 0 as x"`, "error 101", `query "select b as x"`, "error 120", `query "select a as x where a < -9"`, "end 0", "query 'x'", "error 110", "compact", "ok", "compact", "error 2", "crash 1", "ok", "lead 1", "ok", `query "select sum(a) as s"`, "row 12\nend 1",
		"cluster 1 100000", "ok", "lead 1", "ok", "parts", "parts", `create "b int"`, "ok 0",
	)
}

// Numbers have up to eighteen digits, and all of them count.
func TestNumbers(t *testing.T) {
	runs(t, "cluster 3 16777216", "ok", "cluster 3 16777217", "error 2", "cluster 1 100000", "ok", "lead 1", "ok", `create "a int"`, "ok 0", "ingest 999999999999999999 123456789012345678 1 5", "ok 1", "ingest 999999999999999999 123456789012345677 1 5", "error 2",
		"ingest 999999999999999999 123456789012345678 1 6", "ok 1", "ingest 999999999999999999 123456789012345679 1 6", "ok 2", "ingest 999999999999999998 1 1 7", "ok 3", "ingest 0 10 1 8", "ok 4", "ingest 0 9 1 8", "error 2", "ingest 0 11 10 1 2 3 4 5 6 7 8 9 10 11", "error 2", "ingest 0 11 10 1 2 3 4 5 6 7 8 9 10", "error 51")
}

// Words are printed as they are, or quoted.
func TestWords(t *testing.T) {
	runs(t,
		"cluster 1 100000", "ok", "lead 1", "ok", `create "a text, b bool null"`, "ok 0", `ingest 1 1 2 'x' true "'a b'" false "''" null`, "ok 3", `query "select a as a, b as b"`, "row 'x' true\nrow \"'a b'\" false\nrow '' null\nend 3",
		`ingest 1 2 2 "'a""b'" null 'it''s' null "'#'" null '#' null "'y'" "true"`, "ok 8", `query "select a as a where b is null or a = 'y'"`, "row ''\nrow \"'a\"\"b'\"\nrow 'it''s'\nrow '#'\nrow '#'\nrow 'y'\nend 6",
	)
	runs(t, "  cluster   1  100000  ", "ok", " lead 1 ", "ok", "create    \"a int\"   ", "ok 0", "   # create x", "", "ingest  1 1 1   5 \"-6\"", "ok 2", "query  \"select a as a,  len('x  y') as l\" ", "row 5 4\nrow -6 4\nend 2", "", "", "#", "")
	// a line feed ends a line, also in a quoted word
	fails(t, script("cluster 1 100000", "lead 1", "query \"select", "1 as x\""), 3, api.ErrDeskLine)
}

func TestForms(t *testing.T) {
	good := []string{"cluster 0 0", "cluster 999999999999999999 0", "lead 0", "create x", `create "x"`, `create ""`, `query """"`, "query select", "ingest 1 2 3", "ingest 1 2 3 4 'x' null true false -5", `ingest 1 2 3 "4"`, "merge", "compact", "crash 10", "parts", "create #", "query 'a"}
	for _, s := range good {
		if _, at, e := desk.Run(s); at != 0 || e != 0 {
			t.Error(s, at, e)
		}
	}
	for _, s := range []string{
		"x", "cluster", "cluster 1", "cluster 1 2 3", "cluster 01 2", "cluster 1 00", "cluster -1 2", "cluster +1 2", "cluster 1000000000000000000 2", "cluster x 2", `cluster "1" 2`, `"cluster" 1 2`, `"merge"`, "Merge", "merge#", "lead", "lead 1 2", "lead x", "lead 1.", "lead ١", "create", "create a b", `create "a`, `create "a"b`, `create a"b`, `create a"`,
		`create "a""`, `create "a" "b"`, "ingest", "ingest 1", "ingest 1 2", "ingest 1 2 x", "ingest 1 2 3 x", "ingest 1 2 3 4 05", "ingest 1 2 3 -0", "ingest 1 2 3 'a", "ingest 1 2 3 'a b'", `ingest 1 2 3 ""`, `ingest 1 2 3 "x"`, "ingest x 2 3", "ingest 1 x 3", `ingest 1 2 "3"`, "merge x", "query", "query a b", "query select 1", "compact 1", "crash", "crash 1 1", "parts 1",
		"merge\r", "merge\t", "\tmerge", "merge\x00", `"`, `""`, `"#"`, "1", `query "a"#`, `merge "`,
	} {
		fails(t, s, 1, api.ErrDeskLine)
		fails(t, script("# x", "", "merge", s, "y"), 4, api.ErrDeskLine)
	}
}

func TestLongScripts(t *testing.T) {
	long := "#" + strings.Repeat("x", 65535)
	prints(t, long)
	fails(t, long+"x", 0, api.ErrDeskLong)
	fails(t, "x\n"+long, 0, api.ErrDeskLong)
	prints(t, strings.Repeat("#\n \n", 5000)+strings.Repeat("parts\n", 1000), strings.Split(strings.TrimSuffix(strings.Repeat("error 1\n", 1000), "\n"), "\n")...)
	fails(t, strings.Repeat("parts\n", 1001), 0, api.ErrDeskLong)
	fails(t, strings.Repeat("x\n", 1001), 0, api.ErrDeskLong)
	fails(t, strings.Repeat("parts\n", 999)+"x", 1000, api.ErrDeskLine)
}

func TestMuchOutput(t *testing.T) {
	// a query tells 100 rows of so many bytes
	build := func(n int, queries int, tail ...string) string {
		values := strings.Repeat(" 1", 100)
		lines := append([]string{"cluster 1 1000000", "lead 1", `create "a int"`, "ingest 1 1 1" + values}, tail...)
		for range queries {
			lines = append(lines, fmt.Sprintf(`query "select '%s' as x"`, strings.Repeat("x", n)))
		}
		return script(lines...)
	}
	head := len("ok\nok\nok 0\nok 100\n")
	// each query prints 100 lines of n + 7 bytes, and 8 more
	s, at, e := desk.Run(build(1000, 10))
	if at != 0 || e != 0 || len(s) != head+10*(100*1007+8) {
		t.Error(len(s), at, e)
	}
	fails(t, build(1000, 11), 15, api.ErrDeskLong)
	fails(t, build(1000, 20), 15, api.ErrDeskLong)
	fails(t, build(1000, 11, "# x", ""), 17, api.ErrDeskLong)
	// to the last byte: lines of 8 bytes, and a query whose rows take what is left
	text := build(1000, 10)
	left := 1048576 - len(s) - 8
	n := left/100 - 7
	if left -= 100 * (n + 7); n < 1 || left < 0 {
		t.Fatal(n, left)
	}
	text += fmt.Sprintf("\nquery \"select '%s' as x\"", strings.Repeat("x", n))
	for ; left%8 != 0; left -= len("parts 100\n") {
		text += "\nparts"
	}
	text += strings.Repeat("\nmerge", left/8)
	if s, at, e = desk.Run(text); len(s) != 1048576 || at != 0 || e != 0 {
		t.Error(len(s), at, e)
	}
	fails(t, text+"\nmerge", strings.Count(text, "\n")+2, api.ErrDeskLong)
}

// The number of members, and which one leads, make no difference to commands and queries.
func TestMembersMakeNoDifference(t *testing.T) {
	r := rand.New(rand.NewSource(1))
	for range 20 {
		var lines []string
		number := 0
		for range 30 {
			switch r.Intn(6) {
			case 0, 1:
				number++
				lines = append(lines, fmt.Sprintf("ingest %d %d 2 %d 'x' %d null", r.Intn(3), number, r.Intn(9), r.Intn(9)))
			case 2:
				lines = append(lines, "merge", "parts")
			case 3:
				lines = append(lines, `query "select b as b, count(*) as n, sum(a) as s group by b order by b"`)
			case 4:
				lines = append(lines, `query "select a as a where a < 5 order by a desc limit 7"`, `query "select a / (a - 3) as x"`)
			case 5:
				lines = append(lines, "leader", "compact")
			}
		}
		outputs := map[string]int{}
		for n := 1; n <= 5; n++ {
			text := []string{fmt.Sprintf("cluster %d 1000000", n), fmt.Sprintf("lead %d", 1+r.Intn(n)), `create "a int, b text null"`}
			for _, line := range lines {
				if line == "leader" {
					next := 1 + r.Intn(n)
					text = append(text, fmt.Sprintf("crash %d", 1+r.Intn(n)), fmt.Sprintf("lead %d", next), fmt.Sprintf("crash %d", next), fmt.Sprintf("lead %d", 1+r.Intn(n)))
					continue
				}
				text = append(text, line)
			}
			s, at, e := desk.Run(script(text...))
			if at != 0 || e != 0 {
				t.Fatal(at, e)
			}
			var kept []string
			for _, line := range strings.Split(s, "\n") {
				if line != "ok" && line != "error 2" {
					kept = append(kept, line)
				}
			}
			outputs[strings.Join(kept, "\n")]++
		}
		if len(outputs) != 1 {
			for s := range outputs {
				t.Log(s)
			}
			t.Fatal("members make a difference")
		}
	}
}

// The output before a line does not depend on the lines after it, and comments change nothing.
func TestPrefixes(t *testing.T) {
	lines := []string{"cluster 3 1000000", "lead 2", `create "a int"`, "ingest 1 1 1 5 6", "merge", "parts", "ingest 1 2 1 7", "merge", `query "select a as a"`, "crash 1", "lead 3", "crash 2", "compact", `query "select sum(a) as s"`, "crash 3", "parts"}
	whole, _, _ := desk.Run(script(lines...))
	before := ""
	for i := range lines {
		s, _, e := desk.Run(script(lines[:i+1]...))
		if e != 0 || !strings.HasPrefix(whole, s) || !strings.HasPrefix(s, before) || len(s) <= len(before) {
			t.Error(i, s)
		}
		before = s
	}
	if s, _, _ := desk.Run("# a\n\n" + strings.Join(lines, "\n  # b\n \n") + "\n#"); s != whole {
		t.Error(s)
	}
	if s, _, _ := desk.Run(script(lines...) + "\n"); s != whole {
		t.Error(s)
	}
}
