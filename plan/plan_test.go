package plan_test

import (
	"fmt"
	"math/rand"
	"slices"
	"strings"
	"testing"

	"stackyard/api"
	"stackyard/plan"
	"stackyard/query"
)

var ab = []api.Column{{Name: "a", Kind: api.KInt}, {Name: "b", Kind: api.KText, Null: true}}

var abcd = []api.Column{{Name: "a", Kind: api.KInt}, {Name: "b", Kind: api.KText, Null: true}, {Name: "c", Kind: api.KBool}, {Name: "d", Kind: api.KInt, Null: true}}

// same tells whether two results are the same; an empty list is as good as none.
func same(a, b any) bool { return fmt.Sprintf("%+v", a) == fmt.Sprintf("%+v", b) }

func parse(t *testing.T, s string) api.Query {
	q, at, e := query.Parse(s)
	if e != 0 {
		t.Fatal(s, at, e)
	}
	return q
}

func out(l ...any) []api.Column {
	var cols []api.Column
	for i := 0; i < len(l); i += 2 {
		cols = append(cols, api.Column{Name: l[i].(string), Kind: l[i+1].(int), Null: true})
	}
	return cols
}

func TestPlans(t *testing.T) {
	for _, c := range []struct {
		s      string
		out    []api.Column
		gather bool
	}{
		{"select a + 1 as x, b as y", out("x", api.KInt, "y", api.KText), false},
		{"select b as k, sum(a) as s group by b", out("k", api.KText, "s", api.KInt), true},
		{"select c as x", out("x", api.KBool), false}, {"select null as x", out("x", api.KInt), false}, {"select a is null as x", out("x", api.KBool), false},
		{"select count(*) as n", out("n", api.KInt), true}, {"select count(b) as n", out("n", api.KInt), true}, {"select count(null) as n", out("n", api.KInt), true}, {"select sum(null) as n", out("n", api.KInt), true},
		{"select min(b) as x, max(c) as y, min(null) as z", out("x", api.KText, "y", api.KBool, "z", api.KInt), true}, {"select max(a) as m", out("m", api.KInt), true},
		{"select a as x group by a", out("x", api.KInt), true}, {"select a + 1 as x group by b, a + 1", out("x", api.KInt), true}, {"select null as x group by null", out("x", api.KInt), true}, {"select count(*) as n group by c, b, a", out("n", api.KInt), true},
		{"select a as x where c", out("x", api.KInt), false}, {"select a as x where null", out("x", api.KInt), false}, {"select a as x where a < 1 and c order by x desc limit 5", out("x", api.KInt), false}, {"select d as a, a as d", out("a", api.KInt, "d", api.KInt), false},
		{"select c as k, c as l, min(c) as m group by c, c", out("k", api.KBool, "l", api.KBool, "m", api.KBool), true},
	} {
		q := parse(t, c.s)
		p, e := plan.Make(abcd, q)
		want := api.Plan{Cols: abcd, Q: q, Out: c.out, Gather: c.gather}
		if e != 0 || !same(p, want) {
			t.Errorf("%s: %v %d", c.s, p, e)
		}
		if again, e := plan.Make(p.Cols, p.Q); e != 0 || !same(again, p) {
			t.Errorf("%s: %v %d", c.s, again, e)
		}
	}
}

func TestErrors(t *testing.T) {
	for s, want := range map[string]api.Errno{
		"select a as x group by b": api.ErrPlanForm, "select sum(b) as s": api.ErrPlanType, "select c as x": api.ErrPlanName, "select a as x where a": api.ErrPlanType, "select a as x, a as x": api.ErrPlanForm,
		"select a as x where b": api.ErrPlanType, "select a as x where c": api.ErrPlanName, "select a as x group by c": api.ErrPlanName, "select count(*) as n group by not a": api.ErrPlanType, "select sum(a < 1) as s": api.ErrPlanType, "select sum(c) as s": api.ErrPlanName,
		"select count(*) as n, a as x": api.ErrPlanForm, "select a + 1 as x group by a": api.ErrPlanForm, "select 1 as x group by a": api.ErrPlanForm, "select sum(a) as s, sum(a) as s": api.ErrPlanForm, "select a as x, a + 1 as y, b as x": api.ErrPlanForm, "select a as x, b as y": api.OK,
		"select a + b as x": api.ErrPlanType, "select count(a + b) as x": api.ErrPlanType, "select count(c) as x": api.ErrPlanName, "select min(c) as x": api.ErrPlanName, "select len(a) as x": api.ErrPlanType,
		// the first error: Where, Group, items
		"select c as x where a": api.ErrPlanType, "select not a as x where c": api.ErrPlanName, "select c as x group by not a": api.ErrPlanType, "select not a as x group by c": api.ErrPlanName, "select count(*) as n where not a group by c": api.ErrPlanType, "select count(*) as n where c group by not a": api.ErrPlanName,
		"select a as x, c as x group by b": api.ErrPlanForm, "select c as x, not a as x": api.ErrPlanName, "select a as x, not a as x": api.ErrPlanType, "select a as x, c as x": api.ErrPlanName, "select count(*) as x, sum(b) as x": api.ErrPlanType, "select sum(b) as x, c as y": api.ErrPlanType,
		"select count(*) as n, sum(b) as n group by b": api.ErrPlanType,
	} {
		p, e := plan.Make(ab, parse(t, s))
		if e != want || e != 0 && !same(p, api.Plan{}) {
			t.Errorf("%s: %v %d", s, p, e)
		}
	}
	good := parse(t, "select a as x")
	for i, cols := range [][]api.Column{nil, {{Name: "A", Kind: 1}}, {ab[0], ab[0]}, {{Name: "a", Kind: 4}}} {
		for _, q := range []api.Query{good, {}} {
			if p, e := plan.Make(cols, q); e != api.ErrSchema || !same(p, api.Plan{}) {
				t.Error(i, p, e)
			}
		}
	}
	for i, q := range []api.Query{{}, {Items: good.Items, Limit: -2}, {Items: good.Items, Limit: 4097}, {Items: []api.Item{{Name: "x"}}, Limit: -1}, {Items: good.Items, Limit: -1, Order: []api.Key{{Item: 1}}}, {Items: []api.Item{{Name: "x", X: api.Expr{Op: api.ECol, Name: "select"}}}, Limit: -1}} {
		if p, e := plan.Make(ab, q); e != api.ErrQueryForm || !same(p, api.Plan{}) {
			t.Error(i, p, e)
		}
	}
}

func TestNeeds(t *testing.T) {
	for s, want := range map[string][]int{
		"select count(*) as n where len(b) = 2": {1}, "select count(*) as n": nil, "select 1 as x": nil, "select d as x, a as y": {0, 3}, "select a as x, a + d as y where c": {0, 2, 3}, "select count(*) as n group by b, a": {0, 1}, "select sum(d) as s, min(c) as m": {2, 3},
		"select b as k, max(d + a) as m where c group by b order by m": {0, 1, 2, 3}, "select a as b": {0}, "select a as x where d is null": {0, 3},
	} {
		p, e := plan.Make(abcd, parse(t, s))
		if l := plan.Needs(p); !slices.Equal(l, want) || e != 0 {
			t.Error(s, l, e)
		}
	}
	cyclic := api.Expr{Op: api.ENeg, Kids: make([]api.Expr, 1)}
	cyclic.Kids[0] = cyclic
	for _, p := range []api.Plan{{}, {Q: parse(t, "select z as x")}, {Q: api.Query{Items: []api.Item{{X: cyclic}}, Where: []api.Expr{cyclic}}}} {
		plan.Needs(p)
	}
}

// A column that a plan does not need may be taken away.
func TestColumnsThatAreNotNeeded(t *testing.T) {
	for _, s := range []string{"select count(*) as n", "select a as x where c", "select b as k, sum(d) as s group by b", "select d as x order by x"} {
		p, _ := plan.Make(abcd, parse(t, s))
		for i := range abcd {
			if slices.Contains(plan.Needs(p), i) {
				continue
			}
			fewer := slices.Delete(slices.Clone(abcd), i, i+1)
			other, e := plan.Make(fewer, p.Q)
			want := p
			want.Cols = fewer
			if e != 0 || !same(other, want) {
				t.Error(s, i, e)
			}
		}
	}
}

// A plan shares no memory with what was passed.
func TestPlansAreNew(t *testing.T) {
	cols := slices.Clone(ab)
	q := parse(t, "select a + 1 as x, count(b) as y where a < 1 group by a + 1, b order by x")
	kept := parse(t, "select a + 1 as x, count(b) as y where a < 1 group by a + 1, b order by x")
	p, e := plan.Make(cols, q)
	if e != 0 || !same(q, kept) || !slices.Equal(cols, ab) {
		t.Fatal(e)
	}
	cols[0].Name = "zz"
	q.Items[0].X.Kids[0].Name = "zz"
	q.Where[0].Kids[1].V.N = 99
	q.Group[0].Kids[0].Name = "zz"
	q.Order[0].Desc = true
	q.Items[1].Name = "zz"
	if want, _ := plan.Make(ab, kept); !same(p, want) {
		t.Error(p)
	}
	shared := []api.Expr{{Op: api.ECol, Name: "a"}}
	x := api.Expr{Op: api.ENeg, Kids: shared}
	p, e = plan.Make(ab, api.Query{Items: []api.Item{{Name: "x", X: x}, {Name: "y", X: x}}, Limit: -1})
	if e != 0 {
		t.Fatal(e)
	}
	p.Q.Items[0].X.Kids[0].Name = "q"
	if p.Q.Items[1].X.Kids[0].Name != "a" || shared[0].Name != "a" {
		t.Error("lists of one result share memory")
	}
}

// Items of random queries: each error is that of the first item that has one.
func TestFirstErrors(t *testing.T) {
	r := rand.New(rand.NewSource(1))
	items := map[string]api.Errno{"a as NAME": 0, "b as NAME": 0, "z as NAME": api.ErrPlanName, "not a as NAME": api.ErrPlanType, "sum(b) as NAME": api.ErrPlanType}
	var texts []string
	for s := range items {
		texts = append(texts, s)
	}
	slices.Sort(texts)
	for range 3000 {
		var parts []string
		want, gathered := api.OK, false
		var chosen []string
		seen := map[string]int{}
		for range 1 + r.Intn(4) {
			s := texts[r.Intn(len(texts))]
			chosen = append(chosen, s)
			gathered = gathered || strings.HasPrefix(s, "sum")
		}
		for _, s := range chosen {
			name := string(rune('p' + r.Intn(6)))
			parts = append(parts, strings.ReplaceAll(s, "NAME", name))
			e := items[s]
			if e == 0 && (gathered && !strings.HasPrefix(s, "sum") || seen[name] > 0) {
				e = api.ErrPlanForm
			}
			if want == 0 {
				want = e
			}
			seen[name]++
		}
		s := "select " + strings.Join(parts, ", ")
		if _, e := plan.Make(ab, parse(t, s)); e != want {
			t.Fatal(s, e, want)
		}
	}
}
