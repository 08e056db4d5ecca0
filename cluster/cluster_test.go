package cluster_test

import (
	"fmt"
	"math"
	"slices"
	"strings"
	"testing"

	"stackyard/api"
	"stackyard/catalog"
	"stackyard/cluster"
	"stackyard/net"
	"stackyard/segment"
	"stackyard/value"
)

func num(n int64) api.Value { return api.Value{Kind: api.KInt, N: n} }

var one = []api.Column{{Name: "a", Kind: api.KInt}}

var two = []api.Column{{Name: "a", Kind: api.KInt}, {Name: "b", Kind: api.KText, Null: true}}

func rows(l ...int64) (out []api.Row) {
	for _, n := range l {
		out = append(out, api.Row{num(n)})
	}
	return out
}

func ok(t *testing.T, errors ...api.Errno) {
	t.Helper()
	for i, e := range errors {
		if e != 0 {
			t.Fatal(i, e)
		}
	}
}

func fresh(t *testing.T, n, room int) *cluster.Cluster {
	t.Helper()
	c, e := cluster.New(n, room)
	if e != 0 || c == nil {
		t.Fatal(e)
	}
	return c
}

func passAll(t *testing.T, c *cluster.Cluster) {
	t.Helper()
	for steps := 0; c.Pass(0); steps++ {
		if steps > 50000 {
			t.Fatal("messages have no end")
		}
	}
}

func elect(t *testing.T, c *cluster.Cluster, i int) {
	t.Helper()
	for try := 0; c.Node(i).Role() != 2; try++ {
		if try == 3 {
			t.Fatal("member", i, "does not lead")
		}
		ok(t, c.Timeout(i))
		passAll(t, c)
	}
}

func beats(t *testing.T, c *cluster.Cluster, i int) {
	t.Helper()
	for range 3 {
		ok(t, c.Beat(i))
		passAll(t, c)
	}
}

// answered settles, and polls.
func answered(t *testing.T, c *cluster.Cluster, i int, ticket int64, e api.Errno) api.Answer {
	t.Helper()
	ok(t, e)
	beats(t, c, i)
	a, found := c.Poll(ticket)
	if !found {
		t.Fatal("ticket", ticket, "is open")
	}
	if b, again := c.Poll(ticket); again || b.Code != 0 || b.N != 0 || b.Rows != nil {
		t.Fatal("ticket", ticket, "is answered twice")
	}
	return a
}

func did(t *testing.T, c *cluster.Cluster, i int, code api.Errno, n int64) func(ticket int64, e api.Errno) {
	t.Helper()
	return func(ticket int64, e api.Errno) {
		t.Helper()
		if a := answered(t, c, i, ticket, e); a.Code != code || a.N != n || len(a.Rows) != 0 {
			t.Error(a)
		}
	}
}

func asked(t *testing.T, c *cluster.Cluster, i int, text string) string {
	t.Helper()
	ticket, e := c.Query(i, text)
	return told(answered(t, c, i, ticket, e))
}

func told(a api.Answer) string {
	if a.Code != 0 {
		return fmt.Sprintf("error %d %d", a.Code, len(a.Rows))
	}
	var l []string
	for _, row := range a.Rows {
		for _, v := range row {
			s, _ := value.Show(v)
			l = append(l, s)
		}
	}
	return strings.Join(l, " ")
}

func nameOf(t *testing.T, l ...int64) string {
	s, e := segment.Write(one, rows(l...))
	ok(t, e)
	return segment.Name(s)
}

func TestNew(t *testing.T) {
	for _, x := range [][2]int{{0, 100}, {8, 100}, {-1, 100}, {1, -1}, {1, 16777217}, {math.MaxInt, math.MaxInt}, {math.MinInt, 5}} {
		if c, e := cluster.New(x[0], x[1]); c != nil || e != api.ErrArg {
			t.Error(x, e)
		}
	}
	if c, e := cluster.New(3, 2); c != nil || e != api.ErrNoSpc {
		t.Error(e)
	}
	for n := 1; n <= 7; n++ {
		c := fresh(t, n, 16777216/n)
		for i := -1; i <= 8; i++ {
			is := i >= 1 && i <= n
			if (c.Node(i) != nil) != is || (c.Disk(i) != nil) != is || c.Applied(i) != 0 || (c.Catalog(i) == "\x00\x00\x00") != is || len(c.Lacks(i)) != 0 {
				t.Error(n, i)
			}
		}
		if c.Net() == nil || c.Net().Many() != 0 || c.Pass(0) || c.Pass(-1) {
			t.Error(n)
		}
	}
}

func TestNil(t *testing.T) {
	var c *cluster.Cluster
	_, e1 := c.Create(0, nil)
	_, e2 := c.Ingest(0, -1, 0, nil, nil)
	_, e3 := c.Merge(0)
	_, e4 := c.Query(0, "")
	for i, e := range []api.Errno{c.Timeout(0), c.Beat(0), c.Crash(0, 0), c.Fetch(0), c.Tidy(0), c.Compact(0), e1, e2, e3, e4} {
		if e != api.ErrNil {
			t.Error(i, e)
		}
	}
	a, found := c.Poll(1)
	if c.Pass(0) || found || len(a.Rows) != 0 || a.Code != 0 || c.Node(1) != nil || c.Net() != nil || c.Disk(1) != nil || c.Applied(1) != 0 || c.Catalog(1) != "" || len(c.Lacks(1)) != 0 {
		t.Error("there is something")
	}
}

func TestExample(t *testing.T) {
	c := fresh(t, 1, 100000)
	ok(t, c.Timeout(1))
	poll := func(ticket int64, e api.Errno) api.Answer {
		t.Helper()
		ok(t, e)
		a, found := c.Poll(ticket)
		if !found {
			t.Fatal("a ticket is open")
		}
		return a
	}
	k1, e := c.Create(1, one)
	if a := poll(k1, e); a.Code != 0 || a.N != 0 || k1 < 1 {
		t.Error(k1, a)
	}
	k2, e := c.Ingest(1, 7, 1, one, rows(5, 6))
	if a := poll(k2, e); a.Code != 0 || a.N != 2 || k2 < 1 || k2 == k1 {
		t.Error(k2, a)
	}
	k3, e := c.Query(1, "select sum(a) as s")
	if a := poll(k3, e); told(a) != "11" || a.N != 0 || k3 < 1 || k3 == k1 || k3 == k2 {
		t.Error(k3, a)
	}
	for text, want := range map[string]string{"select b as s": "error 120 0", "": "error 110 0", "select a as a where 1 / 0 = a": "error 101 0", "select a as a order by a desc": "6 5"} {
		k, e := c.Query(1, text)
		if s := told(poll(k, e)); s != want {
			t.Error(text, s)
		}
	}
	for _, i := range []int{0, 2, -1, 8, math.MaxInt} {
		_, e1 := c.Create(i, nil)
		_, e2 := c.Ingest(i, -1, 0, nil, nil)
		_, e3 := c.Merge(i)
		_, e4 := c.Query(i, "")
		for j, e := range []api.Errno{c.Timeout(i), c.Beat(i), c.Crash(i, 0), c.Fetch(i), c.Tidy(i), c.Compact(i), e1, e2, e3, e4} {
			if e != api.ErrArg {
				t.Error(i, j, e)
			}
		}
	}
	for _, k := range []int64{0, -1, k1, k3, math.MaxInt64} {
		if a, found := c.Poll(k); found || a.Code != 0 || len(a.Rows) != 0 {
			t.Error(k, a)
		}
	}
	file := "s-" + nameOf(t, 5, 6)
	if !slices.Contains(c.Disk(1).Names(), file) || c.Applied(1) != c.Node(1).Commit() {
		t.Error(c.Disk(1).Names())
	}
	s, _ := c.Disk(1).Read(file)
	ok(t, c.Disk(1).Turn(file, 9, s[9]^1))
	if l := c.Lacks(1); !slices.Equal(l, []string{nameOf(t, 5, 6)}) {
		t.Error(l)
	}
	k, e := c.Query(1, "select b as s")
	if s := told(poll(k, e)); s != "error 120 0" || !slices.Contains(c.Disk(1).Names(), file) {
		t.Error(s)
	}
	k, e = c.Query(1, "select sum(a) as s")
	if s := told(poll(k, e)); s != "error 230 0" {
		t.Error(s)
	}
	if l := c.Lacks(1); !slices.Equal(l, []string{nameOf(t, 5, 6)}) || slices.Contains(c.Disk(1).Names(), file) {
		t.Error(l, c.Disk(1).Names())
	}
	// what the log has can be executed again
	ok(t, c.Crash(1, 0), c.Timeout(1))
	k, e = c.Query(1, "select sum(a) as s")
	if s := told(poll(k, e)); s != "11" || len(c.Lacks(1)) != 0 {
		t.Error(s)
	}
}

func TestCommandErrors(t *testing.T) {
	c := fresh(t, 2, 1000000)
	check := func(want ...api.Errno) {
		t.Helper()
		_, e1 := c.Create(1, nil)
		_, e2 := c.Ingest(1, 1, 0, nil, nil)
		_, e3 := c.Ingest(1, 1, 1, nil, rows(1))
		_, e4 := c.Ingest(1, 1, 1, two, rows(1))
		_, e5 := c.Merge(1)
		long := slices.Repeat([]api.Row{{num(1), {Kind: api.KText, S: strings.Repeat("x", 1024)}}}, 300)
		_, e6 := c.Ingest(1, 1, 1, two, long)
		if got := []api.Errno{e1, e2, e3, e4, e5, e6}; !slices.Equal(got, []api.Errno{api.ErrSchema, api.ErrArg, api.ErrSchema, api.ErrRow, api.ErrArg, api.ErrMany}) {
			t.Error(got)
		}
		_, e1 = c.Create(1, one)
		_, e2 = c.Ingest(1, 1, 1, one, rows(1))
		_, e3 = c.Query(1, "x")
		if got := []api.Errno{e1, e2, e3}; !slices.Equal(got, want) {
			t.Error(got)
		}
	}
	check(api.ErrNotLeader, api.ErrNotLeader, api.ErrNotLeader)
	// a leader whose first entry is not committed
	ok(t, c.Timeout(1))
	for c.Node(1).Role() != 2 {
		c.Pass(0)
	}
	check(0, 0, api.ErrRetry)
	beats(t, c, 1)
	check(0, 0, 0)
	if e := c.Compact(2); e != 0 && e != api.ErrArg {
		t.Error(e)
	}
}

func TestTable(t *testing.T) {
	for n := 1; n <= 7; n++ {
		c := fresh(t, n, 1000000)
		lead := 1 + n/2
		elect(t, c, lead)
		if s := asked(t, c, lead, "select 1 as a"); s != "error 50 0" {
			t.Error(s)
		}
		did(t, c, lead, 0, 0)(c.Create(lead, one))
		did(t, c, lead, api.ErrArg, 0)(c.Create(lead, two))
		did(t, c, lead, 0, 2)(c.Ingest(lead, 7, 1, one, rows(5, 6)))
		did(t, c, lead, 0, 2)(c.Ingest(lead, 7, 1, one, rows(5, 6)))
		did(t, c, lead, 0, 3)(c.Ingest(lead, 7, 2, one, rows(8)))
		did(t, c, lead, api.ErrArg, 0)(c.Ingest(lead, 7, 1, one, rows(9)))
		did(t, c, lead, api.ErrSchema, 0)(c.Ingest(lead, 8, 1, two, []api.Row{{num(1), {}}}))
		if s := asked(t, c, lead, "select a as a"); s != "5 6 8" {
			t.Error(s)
		}
		did(t, c, lead, 0, 1)(c.Merge(lead))
		if _, e := c.Merge(lead); e != api.ErrArg {
			t.Error(e)
		}
		if s := asked(t, c, lead, "select a as a order by a desc limit 2"); s != "8 6" {
			t.Error(s)
		}
		for i := 1; i <= n; i++ {
			if c.Catalog(i) != c.Catalog(lead) || c.Applied(i) != c.Applied(lead) || len(c.Lacks(i)) != 0 {
				t.Error(n, i)
			}
			files := []string{"s-" + nameOf(t, 5, 6), "s-" + nameOf(t, 8), "s-" + nameOf(t, 5, 6, 8)}
			for _, file := range files {
				s, e := c.Disk(i).Crash(0).Read(file)
				if e != 0 || "s-"+segment.Name(s) != file {
					t.Error(n, i, e)
				}
			}
			ok(t, c.Tidy(i), c.Tidy(i))
			for j, file := range files {
				if slices.Contains(c.Disk(i).Names(), file) != (j == 2) {
					t.Error(n, i, c.Disk(i).Names())
				}
			}
			if _, e := c.Disk(i).Read("wal"); e != 0 {
				t.Error("the log is gone")
			}
		}
		if s := asked(t, c, lead, "select count(*) as n, sum(a) as s"); s != "3 19" {
			t.Error(s)
		}
	}
}

// The first two consecutive parts that have at most 1024 rows together are merged.
func TestMergeChoice(t *testing.T) {
	c := fresh(t, 1, 4000000)
	ok(t, c.Timeout(1))
	did(t, c, 1, 0, 0)(c.Create(1, one))
	total := int64(0)
	for i, n := range []int{1000, 25, 1000, 24, 5} {
		total += int64(n)
		l := make([]int64, n)
		for j := range l {
			l[j] = int64(i)
		}
		did(t, c, 1, 0, total)(c.Ingest(1, 1, int64(i+1), one, rows(l...)))
	}
	did(t, c, 1, 0, 4)(c.Merge(1))
	cat, e := catalog.Load(c.Catalog(1))
	ok(t, e)
	var sizes []int
	for _, part := range cat.Parts() {
		sizes = append(sizes, part.Rows)
	}
	if !slices.Equal(sizes, []int{1000, 25, 1024, 5}) {
		t.Error(sizes)
	}
	if s := asked(t, c, 1, "select a as k, count(*) as n group by a"); s != "0 1000 1 25 2 1000 3 24 4 5" {
		t.Error(s)
	}
	if _, e := c.Merge(1); e != api.ErrArg {
		t.Error(e)
	}
	did(t, c, 1, 0, 2055)(c.Ingest(1, 1, 9, one, rows(1)))
	name := cat.Parts()[3].Name
	ok(t, c.Disk(1).Turn("s-"+name, 0, 'x'))
	before := c.Applied(1)
	if k, e := c.Merge(1); k != 0 || e != api.ErrAway || c.Applied(1) != before {
		t.Error(k, e)
	}
	c.Disk(1).Remove("s-" + name)
	if k, e := c.Merge(1); k != 0 || e != api.ErrAway {
		t.Error(k, e)
	}
}

func TestTickets(t *testing.T) {
	c := fresh(t, 3, 1000000)
	elect(t, c, 1)
	did(t, c, 1, 0, 0)(c.Create(1, one))
	// open until the member knows that it is committed
	k, e := c.Ingest(1, 1, 1, one, rows(5))
	ok(t, e)
	q, e := c.Query(1, "select count(*) as n")
	ok(t, e)
	for _, ticket := range []int64{k, q} {
		if _, found := c.Poll(ticket); found {
			t.Error("a ticket is answered at once")
		}
	}
	if k == q || k < 1 || q < 1 {
		t.Error(k, q)
	}
	beats(t, c, 1)
	if a, found := c.Poll(k); !found || a.N != 1 {
		t.Error(a)
	}
	if a, found := c.Poll(q); !found || told(a) != "0" && told(a) != "1" {
		t.Error(a)
	}
	// of a member that crashes
	k, e = c.Ingest(1, 1, 2, one, rows(6))
	ok(t, e)
	q, e = c.Query(1, "select count(*) as n")
	ok(t, e, c.Crash(1, 0))
	for _, ticket := range []int64{k, q} {
		if a, found := c.Poll(ticket); !found || a.Code != api.ErrRetry || a.N != 0 || len(a.Rows) != 0 {
			t.Error(a, found)
		}
		if _, found := c.Poll(ticket); found {
			t.Error("a ticket is answered twice")
		}
	}
	// of a leader that is replaced, and whose entry is another one then
	elect(t, c, 1)
	beats(t, c, 1)
	for i := 2; i <= 3; i++ {
		ok(t, c.Net().Cut(1, i, true), c.Net().Cut(i, 1, true))
	}
	k, e = c.Ingest(1, 1, 3, one, rows(7))
	ok(t, e)
	q, e = c.Query(1, "select count(*) as n")
	ok(t, e)
	elect(t, c, 2)
	k2, e := c.Ingest(2, 2, 1, one, rows(8))
	ok(t, e)
	beats(t, c, 2)
	if a, found := c.Poll(k2); !found || a.Code != 0 {
		t.Error(a, found)
	}
	for range 3 {
		ok(t, c.Beat(1))
		passAll(t, c)
	}
	for _, ticket := range []int64{k, q} {
		if _, found := c.Poll(ticket); found {
			t.Error("a leader without others answers")
		}
	}
	for i := 2; i <= 3; i++ {
		ok(t, c.Net().Cut(1, i, false), c.Net().Cut(i, 1, false))
	}
	beats(t, c, 2)
	beats(t, c, 2)
	for _, ticket := range []int64{k, q} {
		if a, found := c.Poll(ticket); !found || a.Code != api.ErrRetry {
			t.Error(a, found)
		}
	}
}

// A ticket whose entry is within a snapshot that the member adopts is answered with ErrRetry.
func TestTicketInSnapshot(t *testing.T) {
	c := fresh(t, 3, 1000000)
	elect(t, c, 1)
	did(t, c, 1, 0, 0)(c.Create(1, one))
	for i := 2; i <= 3; i++ {
		ok(t, c.Net().Cut(1, i, true), c.Net().Cut(i, 1, true))
	}
	k, e := c.Ingest(1, 1, 1, one, rows(7))
	ok(t, e)
	elect(t, c, 2)
	for i := range int64(5) {
		did(t, c, 2, 0, i+1)(c.Ingest(2, 2, i+1, one, rows(i)))
	}
	ok(t, c.Compact(2))
	for i := 2; i <= 3; i++ {
		ok(t, c.Net().Cut(1, i, false), c.Net().Cut(i, 1, false))
	}
	beats(t, c, 2)
	beats(t, c, 2)
	if a, found := c.Poll(k); !found || a.Code != api.ErrRetry {
		t.Error(a, found)
	}
	if c.Catalog(1) != c.Catalog(2) || c.Applied(1) != c.Applied(2) || len(c.Lacks(1)) != 5 || !slices.IsSorted(c.Lacks(1)) {
		t.Error(c.Applied(1), c.Applied(2), len(c.Lacks(1)))
	}
	// the files come by Fetch
	ok(t, c.Fetch(1), c.Fetch(2))
	passAll(t, c)
	if len(c.Lacks(1)) != 0 {
		t.Error(len(c.Lacks(1)))
	}
	elect(t, c, 1)
	if s := asked(t, c, 1, "select a as a"); s != "0 1 2 3 4" {
		t.Error(s)
	}
}

func TestCompact(t *testing.T) {
	c := fresh(t, 1, 1000000)
	if e := c.Compact(1); e != api.ErrArg {
		t.Error(e)
	}
	ok(t, c.Timeout(1))
	did(t, c, 1, 0, 0)(c.Create(1, one))
	did(t, c, 1, 0, 2)(c.Ingest(1, 7, 1, one, rows(5, 6)))
	ok(t, c.Compact(1))
	if e := c.Compact(1); e != api.ErrArg {
		t.Error(e)
	}
	if s := c.Node(1).Wal().Snap(); s.Index != 3 || s.Data != c.Catalog(1) || c.Applied(1) != 3 {
		t.Error(s)
	}
	before := c.Catalog(1)
	ok(t, c.Crash(1, 0))
	if c.Applied(1) != 3 || c.Catalog(1) != before || len(c.Lacks(1)) != 0 {
		t.Error(c.Applied(1))
	}
	ok(t, c.Timeout(1))
	did(t, c, 1, 0, 2)(c.Ingest(1, 7, 1, one, rows(5, 6)))
	did(t, c, 1, 0, 3)(c.Ingest(1, 7, 2, one, rows(7)))
	if s := asked(t, c, 1, "select a as a"); s != "5 6 7" {
		t.Error(s)
	}
}

func TestFetch(t *testing.T) {
	c := fresh(t, 3, 1000000)
	elect(t, c, 1)
	did(t, c, 1, 0, 0)(c.Create(1, one))
	for i := range int64(3) {
		did(t, c, 1, 0, i+1)(c.Ingest(1, 1, i+1, one, rows(i)))
	}
	names := []string{nameOf(t, 0), nameOf(t, 1), nameOf(t, 2)}
	ok(t, c.Fetch(1))
	passAll(t, c)
	ok(t, c.Disk(1).Remove("s-"+names[0]), c.Disk(1).Turn("s-"+names[1], 3, 'x'), c.Disk(2).Turn("s-"+names[0], 3, 'x'), c.Disk(3).Remove("s-"+names[1]), c.Disk(2).Remove("s-"+names[2]), c.Disk(3).Remove("s-"+names[2]))
	want := []string{names[0], names[1]}
	slices.Sort(want)
	if !slices.Equal(c.Lacks(1), want) {
		t.Error(c.Lacks(1))
	}
	// a changed message does nothing
	ok(t, c.Fetch(1))
	for c.Net().Many() > 0 {
		m, _ := c.Net().Look(0)
		c.Net().Turn(0, len(m.Data)/2, m.Data[len(m.Data)/2]^1)
		c.Pass(0)
	}
	for _, name := range names {
		if s, e := c.Disk(1).Read("s-" + name); e == 0 && segment.Name(s) != name && !slices.Contains(c.Lacks(1), name) {
			t.Error("a file is damaged, and not lacking")
		}
	}
	ok(t, c.Fetch(1))
	passAll(t, c)
	if len(c.Lacks(1)) != 0 || len(c.Lacks(2)) != 2 || len(c.Lacks(3)) != 2 {
		t.Error(c.Lacks(1), c.Lacks(2), c.Lacks(3))
	}
	// what has come is durable
	if s, e := c.Disk(1).Crash(0).Read("s-" + names[0]); e != 0 || segment.Name(s) != names[0] {
		t.Error(e)
	}
	ok(t, c.Fetch(2), c.Fetch(3))
	passAll(t, c)
	if len(c.Lacks(2)) != 0 || len(c.Lacks(3)) != 0 {
		t.Error(c.Lacks(2), c.Lacks(3))
	}
}

// Messages that nobody has made do nothing.
func TestOddMessages(t *testing.T) {
	c := fresh(t, 2, 100000)
	elect(t, c, 1)
	did(t, c, 1, 0, 0)(c.Create(1, one))
	before := c.Catalog(2)
	for _, s := range []string{"", "abc", net.Seal(""), net.Seal("abc"), net.Seal("a\x40\x00\x00x"), net.Seal("f\xff\xff\xff"), net.Seal("f\x03\x00\x00abc"), net.Seal("\x01\x02"), net.Seal(strings.Repeat("a", 500))} {
		ok(t, c.Net().Send(api.Msg{From: 1, To: 2, Data: s}))
	}
	names := c.Disk(2).Names()
	passAll(t, c)
	if c.Catalog(2) != before || !slices.Equal(c.Disk(2).Names(), names) || c.Node(2).Dead() {
		t.Error("something has changed")
	}
}

func TestDead(t *testing.T) {
	build := func(n int) *cluster.Cluster {
		c := fresh(t, n, 1000000)
		elect(t, c, 1)
		did(t, c, 1, 0, 0)(c.Create(1, one))
		did(t, c, 1, 0, 1)(c.Ingest(1, 1, 1, one, rows(5)))
		return c
	}
	// wherever the power fails in an ingest, the rows are there once afterwards, or not at all
	for fuse := 0; ; fuse++ {
		c := build(1)
		ok(t, c.Disk(1).Fuse(fuse))
		k, e := c.Ingest(1, 1, 2, one, rows(6, 7))
		if e == 0 {
			if c.Node(1).Dead() {
				t.Fatal("a member died in a call without an error")
			}
			break
		}
		if k != 0 || e != api.ErrOff || !c.Node(1).Dead() {
			t.Fatal(fuse, k, e)
		}
		_, e1 := c.Create(1, nil)
		_, e2 := c.Query(1, "")
		_, e3 := c.Merge(1)
		_, e4 := c.Ingest(1, -1, 0, nil, nil)
		for i, e := range []api.Errno{c.Timeout(1), c.Beat(1), c.Fetch(1), c.Tidy(1), c.Compact(1), e1, e2, e3, e4} {
			if e != api.ErrOff {
				t.Error(fuse, i, e)
			}
		}
		ok(t, c.Crash(1, fuse%4, fuse%3, 5, 100), c.Timeout(1))
		if s := asked(t, c, 1, "select a as a"); s != "5" && s != "5 6 7" {
			t.Error(fuse, s)
		}
		did(t, c, 1, 0, 3)(c.Ingest(1, 1, 2, one, rows(6, 7)))
		if s := asked(t, c, 1, "select a as a"); s != "5 6 7" {
			t.Error(fuse, s)
		}
	}
	// messages to a dead member have no effect
	c := build(3)
	ok(t, c.Disk(2).Fuse(0))
	c.Disk(2).Create("x")
	did(t, c, 1, 0, 3)(c.Ingest(1, 1, 2, one, rows(6, 7)))
	if c.Applied(2) == c.Applied(1) || c.Timeout(2) != api.ErrOff {
		t.Error(c.Applied(2))
	}
	ok(t, c.Crash(2, 0))
	beats(t, c, 1)
	beats(t, c, 1)
	if c.Applied(2) != c.Applied(1) || c.Catalog(2) != c.Catalog(1) {
		t.Error(c.Applied(2))
	}
	// a log that was changed is detected: the member does not begin
	ok(t, c.Disk(3).Turn("wal", 2, 0xff))
	if e := c.Crash(3, 0); e != api.ErrWalForm || !c.Node(3).Dead() || c.Beat(3) != api.ErrOff || c.Crash(3, 0) != api.ErrWalForm {
		t.Error(e)
	}
	did(t, c, 1, 0, 4)(c.Ingest(1, 1, 3, one, rows(8)))
	if s := asked(t, c, 1, "select a as a"); s != "5 6 7 8" {
		t.Error(s)
	}
}

// Files for which there is no space are not written, and the queries are answered with ErrAway.
func TestNoSpace(t *testing.T) {
	c := fresh(t, 1, 20000)
	ok(t, c.Timeout(1))
	did(t, c, 1, 0, 0)(c.Create(1, one))
	did(t, c, 1, 0, 1)(c.Ingest(1, 1, 1, one, rows(5)))
	d := c.Disk(1)
	ok(t, d.Create("fill"), d.Append("fill", strings.Repeat("x", d.Left()-60)))
	did(t, c, 1, 0, 2)(c.Ingest(1, 1, 2, one, rows(6)))
	if s := asked(t, c, 1, "select a as a"); s != "error 230 0" || len(c.Lacks(1)) != 1 {
		t.Error(s, c.Lacks(1))
	}
	for {
		k, e := c.Ingest(1, 1, 3, one, rows(7))
		if e == api.ErrNoSpc && k == 0 {
			break
		}
		ok(t, e)
	}
	ok(t, d.Remove("fill"), c.Crash(1, 99), c.Timeout(1))
	if s := asked(t, c, 1, "select a as a limit 2"); s != "5 6" {
		t.Error(s)
	}
}
