package exec_test

import (
	"fmt"
	"math/big"
	"math/rand"
	"reflect"
	"slices"
	"strings"
	"testing"

	"stackyard/api"
	"stackyard/exec"
	"stackyard/expr"
	"stackyard/order"
	"stackyard/plan"
	"stackyard/prune"
	"stackyard/query"
	"stackyard/schema"
	"stackyard/segment"
	"stackyard/value"
)

var null = api.Value{}

func num(n int64) api.Value   { return api.Value{Kind: api.KInt, N: n} }
func truth(n int64) api.Value { return api.Value{Kind: api.KBool, N: n} }
func text(s string) api.Value { return api.Value{Kind: api.KText, S: s} }

var ab = []api.Column{{Name: "a", Kind: api.KInt}, {Name: "b", Kind: api.KText}}

var abcd = []api.Column{{Name: "a", Kind: api.KInt, Null: true}, {Name: "b", Kind: api.KText, Null: true}, {Name: "c", Kind: api.KBool, Null: true}, {Name: "d", Kind: api.KInt}}

func open(t *testing.T, cols []api.Column, rows ...api.Row) *segment.Segment {
	s, e := segment.Write(cols, rows)
	if e != 0 {
		t.Fatal(e)
	}
	g, e := segment.Open(s)
	if e != 0 {
		t.Fatal(e)
	}
	return g
}

func prepare(t *testing.T, cols []api.Column, s string) api.Plan {
	q, at, e := query.Parse(s)
	if e != 0 {
		t.Fatal(s, at, e)
	}
	p, e := plan.Make(cols, q)
	if e != 0 {
		t.Fatal(s, e)
	}
	return p
}

// told are rows as one text.
func told(rows []api.Row) string {
	var l []string
	for _, row := range rows {
		var words []string
		for _, v := range row {
			s, _ := value.Show(v)
			words = append(words, s)
		}
		l = append(l, strings.Join(words, " "))
	}
	return strings.Join(l, "; ")
}

func example(t *testing.T) []*segment.Segment {
	return []*segment.Segment{open(t, ab, api.Row{num(1), text("x")}, api.Row{num(2), text("y")}), open(t, ab, api.Row{num(3), text("x")})}
}

func TestExamples(t *testing.T) {
	segs := example(t)
	for _, c := range []struct {
		s, want string
		e       api.Errno
	}{
		{"select b as k, sum(a) as s group by b order by k", "'x' 4; 'y' 2", 0}, {"select a * 2 as d where 1 < a order by d desc limit 1", "6", 0}, {"select count(*) as n where a < 0", "0", 0}, {"select 1 / (a - 2) as q", "", api.ErrZero},
		{"select a as a", "1; 2; 3", 0}, {"select a as a limit 2", "1; 2", 0}, {"select a as a limit 0", "", 0}, {"select a as a order by a desc", "3; 2; 1", 0}, {"select sum(a) as s", "6", 0}, {"select b as k group by b", "'x'; 'y'", 0}, {"select b as k, b as l, count(*) as n group by b order by n desc", "'x' 'x' 2; 'y' 'y' 1", 0},
		{"select sum(a) as s, min(a) as i, max(b) as j, count(a) as c, count(*) as n where a < 0", "null null null 0 0", 0}, {"select b as k, count(*) as n where a < 0 group by b", "", 0}, {"select count(*) as n group by a < 3", "2; 1", 0}, {"select 7 as x", "7; 7; 7", 0}, {"select null as x where a = 1", "null", 0},
		{"select a as a where null", "", 0}, {"select a as a where a = 2 or null", "2", 0}, {"select a % 2 as r, sum(a) as s, min(b) as i group by a % 2 order by r desc", "1 4 'x'; 0 2 'y'", 0}, {"select count(*) as n, count(*) as m, sum(a * a) as s", "3 3 14", 0}, {"select len(b) as l, a as a where b = 'x'", "1 1; 1 3", 0},
		{"select a as a where 1 / (a - 2) = 0", "", api.ErrZero}, {"select sum(a + 9223372036854775807) as s", "", api.ErrOver}, {"select sum(a * 4611686018427387904) as s where a < 2", "4611686018427387904", 0}, {"select sum(a - a + 9223372036854775807) as s", "", api.ErrOver}, {"select min(1 / (a - 3)) as s", "", api.ErrZero},
		{"select count(*) as n group by 1 / (a - 3)", "", api.ErrZero}, {"select sum(1) as s, sum(null) as t", "3 null", 0}, {"select a as a where a <= 2 and 1 / (4 - a) <= 9", "1; 2", 0}, {"select 2 as k, count(*) as n group by 2, b, 2", "2 2; 2 1", 0},
	} {
		rows, e := exec.Run(prepare(t, ab, c.s), segs...)
		if told(rows) != c.want || e != c.e || e != 0 && len(rows) != 0 {
			t.Errorf("%s: %s %d", c.s, told(rows), e)
		}
	}
}

func TestLooked(t *testing.T) {
	segs := append(example(t), open(t, ab))
	for s, want := range map[string]int{
		"select a as a where a = 3": 1, "select a as a": 2, "select count(*) as n": 2, "select a as a where a = 1": 1, "select a as a where a < 9": 2, "select a as a where a < 1": 0, "select a as a where b = 'x'": 2, "select a as a where b = 'y'": 1, "select a as a where null": 0, "select a as a where true": 2,
		"select a as a where a + 1 < 0": 2, "select a as a where false": 0, "select 1 / 0 as x where a = 9": 0, "select 1 / 0 as x where a = 3": 1,
	} {
		if n, e := exec.Looked(prepare(t, ab, s), segs...); n != want || e != 0 {
			t.Error(s, n, e)
		}
	}
	if n, e := exec.Looked(prepare(t, ab, "select a as a")); n != 0 || e != 0 {
		t.Error(n, e)
	}
}

func TestErrors(t *testing.T) {
	segs := example(t)
	good := prepare(t, ab, "select a as a")
	other := open(t, ab[:1])
	null := slices.Clone(ab)
	null[1].Null = true
	for i, c := range []struct {
		p    api.Plan
		segs []*segment.Segment
		e    api.Errno
	}{
		{api.Plan{}, nil, api.ErrSchema}, {api.Plan{Cols: ab}, nil, api.ErrQueryForm}, {api.Plan{Cols: ab[1:], Q: good.Q}, segs, api.ErrPlanName}, {api.Plan{Cols: ab, Q: prepare(t, abcd, "select sum(d) as s").Q}, nil, api.ErrPlanName}, {api.Plan{Cols: ab[1:], Q: good.Q}, []*segment.Segment{nil}, api.ErrPlanName},
		{good, []*segment.Segment{nil}, api.ErrArg}, {good, []*segment.Segment{segs[0], nil}, api.ErrArg}, {good, []*segment.Segment{segs[0], other}, api.ErrArg}, {api.Plan{Cols: null, Q: good.Q}, segs, api.ErrArg}, {api.Plan{Cols: ab[:1], Q: good.Q}, segs, api.ErrArg},
		{api.Plan{Cols: ab, Q: prepare(t, []api.Column{{Name: "b", Kind: api.KInt}}, "select sum(b) as s").Q}, segs, api.ErrPlanType}, {prepare(t, ab, "select 1 / 0 as x"), []*segment.Segment{segs[0], nil}, api.ErrArg},
	} {
		if rows, e := exec.Run(c.p, c.segs...); len(rows) != 0 || e != c.e {
			t.Error(i, rows, e)
		}
		if n, e := exec.Looked(c.p, c.segs...); n != 0 || e != c.e {
			t.Error(i, n, e)
		}
	}
	// the other fields of a plan are not examined
	odd := good
	odd.Gather, odd.Out = true, []api.Column{{Name: "Z"}}
	if rows, e := exec.Run(odd, segs...); told(rows) != "1; 2; 3" || e != 0 {
		t.Error(told(rows), e)
	}
	if rows, e := exec.Run(good); len(rows) != 0 || e != 0 {
		t.Error(rows, e)
	}
	if rows, e := exec.Run(prepare(t, ab, "select count(*) as n, sum(a) as s")); told(rows) != "0 null" || e != 0 {
		t.Error(told(rows), e)
	}
}

// numbers are segments with the numbers from 0 on.
func numbers(t *testing.T, n int) []*segment.Segment {
	var segs []*segment.Segment
	for at := 0; at < n; at += 1024 {
		var rows []api.Row
		for i := at; i < min(n, at+1024); i++ {
			rows = append(rows, api.Row{num(int64(i))})
		}
		segs = append(segs, open(t, ab[:1], rows...))
	}
	return segs
}

func TestMany(t *testing.T) {
	all, more := numbers(t, 4096), numbers(t, 4097)
	for _, c := range []struct {
		s    string
		segs []*segment.Segment
		want string
		e    api.Errno
	}{
		{"select a as a order by a desc limit 1", all, "4095", 0}, {"select a as a limit 1", more, "", api.ErrMany}, {"select a as a where 0 < a order by a limit 1", more, "1", 0}, {"select a as k group by a limit 1", all, "0", 0}, {"select a as k group by a limit 1", more, "", api.ErrMany},
		{"select count(*) as n", more, "4097", 0}, {"select a % 7 as k, count(*) as n group by a % 7 order by k limit 1", more, "0 586", 0}, {"select 1 / (4096 - a) as x", more, "", api.ErrZero}, {"select 1 / (4095 - a) as x", more, "", api.ErrZero}, {"select a as k, sum(1 / (4096 - a)) as s group by a", more, "", api.ErrZero},
		{"select a as a where 1 / (4096 - a) <= 1 limit 1", more, "", api.ErrZero}, {"select a as a where 1 / (4097 - a) <= 1 limit 1", append(slices.Clone(more), more[4]), "", api.ErrMany},
	} {
		rows, e := exec.Run(prepare(t, ab[:1], c.s), c.segs...)
		if told(rows) != c.want || e != c.e {
			t.Errorf("%s: %s %d", c.s, told(rows), e)
		}
	}
	if rows, e := exec.Run(prepare(t, ab[:1], "select a as a"), all...); len(rows) != 4096 || e != 0 {
		t.Error(len(rows), e)
	}
}

// The first error is that of the first row that has one, and there that of the first expression.
func TestFirstErrors(t *testing.T) {
	const most = "9223372036854775806"
	for s, want := range map[string]api.Errno{
		"select 1 / (a - 2) as x, a + " + most + " as y": api.ErrZero, "select 1 / (a - 3) as x, a + " + most + " as y": api.ErrOver, "select a + " + most + " as y, 1 / (a - 2) as x": api.ErrOver, "select a + " + most + " as y where 1 / (a - 3) <= 1": api.ErrOver,
		"select a + " + most + " as y where 1 / (a - 2) <= 1": api.ErrZero, "select 1 / (a - 2) as y where a + " + most + " < 0 or true": api.ErrOver, "select sum(1 / (a - 2)) as s group by a + " + most + "": api.ErrOver, "select sum(a + " + most + ") as s, sum(1 / (a - 2)) as t": api.ErrOver,
		"select sum(1 / (a - 3)) as s, count(a - 2 + 1 + " + most + ") as t": api.ErrZero, "select sum(1 / (a - 3)) as s, count(a - 1 + 1 + " + most + ") as t": api.ErrOver,
	} {
		for _, segs := range [][]*segment.Segment{example(t), {open(t, ab, api.Row{num(1), text("x")}, api.Row{num(2), text("y")}, api.Row{num(3), text("z")})}} {
			if rows, e := exec.Run(prepare(t, ab, s), segs...); len(rows) != 0 || e != want {
				t.Errorf("%s: %s %d", s, told(rows), e)
			}
		}
	}
}

// slowRun processes the rows one by one.
func slowRun(p api.Plan, rows []api.Row) ([]api.Row, api.Errno) {
	var out, keys []api.Row
	groups := map[string]int{}
	var members [][]api.Row
	for _, row := range rows {
		if len(p.Q.Where) > 0 {
			v, e := expr.Eval(p.Cols, row, p.Q.Where[0])
			if e != 0 {
				return nil, e
			}
			if v != truth(1) {
				continue
			}
		}
		var key, vals api.Row
		for _, x := range p.Q.Group {
			v, e := expr.Eval(p.Cols, row, x)
			if e != 0 {
				return nil, e
			}
			key = append(key, v)
		}
		for _, item := range p.Q.Items {
			if item.Agg == api.AggAll || p.Gather && item.Agg == api.AggNone {
				vals = append(vals, null)
				continue
			}
			v, e := expr.Eval(p.Cols, row, item.X)
			if e != 0 {
				return nil, e
			}
			vals = append(vals, v)
		}
		if !p.Gather {
			out = append(out, vals)
			continue
		}
		code := told([]api.Row{key})
		if _, ok := groups[code]; !ok {
			groups[code] = len(keys)
			keys, members = append(keys, key), append(members, nil)
		}
		members[groups[code]] = append(members[groups[code]], vals)
	}
	if p.Gather && len(p.Q.Group) == 0 && len(keys) == 0 {
		keys, members = []api.Row{nil}, [][]api.Row{nil}
	}
	for i, key := range keys {
		var row api.Row
		for j, item := range p.Q.Items {
			v, e := slowAggregate(p, item, j, key, members[i])
			if e != 0 {
				return nil, e
			}
			row = append(row, v)
		}
		out = append(out, row)
	}
	l, _ := order.Sort(out, p.Q.Order...)
	if p.Q.Limit >= 0 && p.Q.Limit < len(l) {
		l = l[:p.Q.Limit]
	}
	return l, 0
}

func slowAggregate(p api.Plan, item api.Item, j int, key api.Row, members []api.Row) (api.Value, api.Errno) {
	var l []api.Value
	sum := new(big.Int)
	for _, row := range members {
		if row[j] != null {
			l = append(l, row[j])
			sum.Add(sum, big.NewInt(row[j].N))
		}
	}
	switch {
	case item.Agg == api.AggNone:
		return key[slices.IndexFunc(p.Q.Group, func(x api.Expr) bool { return expr.Same(x, item.X) })], 0
	case item.Agg == api.AggAll:
		return num(int64(len(members))), 0
	case item.Agg == api.AggCount:
		return num(int64(len(l))), 0
	case len(l) == 0:
		return null, 0
	case item.Agg == api.AggMin:
		return slices.MinFunc(l, value.Compare), 0
	case item.Agg == api.AggMax:
		return slices.MaxFunc(l, value.Compare), 0
	case !sum.IsInt64():
		return null, api.ErrOver
	}
	return num(sum.Int64()), 0
}

func someRows(r *rand.Rand, n int) []api.Row {
	var rows []api.Row
	for i := range n {
		row := api.Row{num(r.Int63n(6) - 2), text("abab"[r.Intn(5):]), truth(r.Int63n(2)), num(int64(i) / 3)}
		for j := range 3 {
			if r.Intn(4) == 0 {
				row[j] = null
			}
		}
		rows = append(rows, row)
	}
	return rows
}

func someQuery(r *rand.Rand) string {
	pick := func(l ...string) string { return l[r.Intn(len(l))] }
	num := func() string {
		return pick("a", "d", "a + d", "a * d - 3", "6 / a", "len(b)", "d % 3", "-a", "7", "a + 9223372036854775805", "null")
	}
	any := func() string {
		return pick(num(), num(), "b", "c", "a is null", "a < d", "not c", "'x'")
	}
	cond := func() string {
		return pick("a < 1", "c", "not c", "b = 'ab'", "b is null", "d <= 4", "d = "+pick("0", "3", "9"), "a = d or c", "1 < a and b < 'b'", "6 / a < 3", "null", "d < 3 and c is null", "3 < d")
	}
	s := "select "
	if r.Intn(2) == 0 {
		s += any() + " as p, " + any() + " as q"
		if r.Intn(2) == 0 {
			s += " where " + cond()
		}
	} else {
		g := []string{any(), any()}[:r.Intn(3)]
		for i, x := range g {
			s += x + " as g" + fmt.Sprint(i) + ", "
		}
		s += pick("count(*)", "count("+any()+")", "sum("+num()+")", "sum("+num()+")") + " as p, " + pick("min", "max") + "(" + any() + ") as q"
		if r.Intn(2) == 0 {
			s += " where " + cond()
		}
		if len(g) > 0 {
			s += " group by " + strings.Join(g, ", ")
		}
	}
	if r.Intn(2) == 0 {
		s += " order by " + pick("p", "q", "p desc", "q desc, p", "q, p desc")
	}
	if r.Intn(3) == 0 {
		s += " limit " + fmt.Sprint(r.Intn(5))
	}
	return s
}

// In whichever segments the rows are, the result is that of processing them one by one.
func TestLikeOneByOne(t *testing.T) {
	r := rand.New(rand.NewSource(1))
	failed, answered := 0, 0
	for range 6000 {
		s := someQuery(r)
		q, _, e := query.Parse(s)
		if e != 0 {
			t.Fatal(s, e)
		}
		p, e := plan.Make(abcd, q)
		if e != 0 {
			t.Fatal(s, e)
		}
		rows := someRows(r, r.Intn(20))
		var segs []*segment.Segment
		for rest := rows; len(rest) > 0 || r.Intn(3) == 0; {
			n := r.Intn(len(rest) + 1)
			segs = append(segs, open(t, abcd, rest[:n]...))
			rest = rest[n:]
		}
		want, wantE := slowRun(p, rows)
		got, e := exec.Run(p, segs...)
		if e != wantE || told(got) != told(want) {
			t.Fatalf("%s: %s %d, not %s %d", s, told(got), e, told(want), wantE)
		}
		if e != 0 {
			failed++
			continue
		}
		answered++
		for _, row := range got {
			if !schema.Fits(p.Out, row) {
				t.Fatal(s, row)
			}
		}
		checkLooked(t, p, segs, told(want))
	}
	if failed < 300 || answered < 2000 {
		t.Error("few queries failed, or few were answered:", failed, answered)
	}
}

// checkLooked checks how many segments are looked at, and that the others make no difference.
func checkLooked(t *testing.T, p api.Plan, segs []*segment.Segment, want string) {
	var some []*segment.Segment
	for _, g := range segs {
		may := g.Rows() > 0
		if len(p.Q.Where) > 0 {
			var zones []api.Zone
			for c := range p.Cols {
				z, _ := g.Zone(c)
				zones = append(zones, z)
			}
			may, _ = prune.May(p.Cols, zones, g.Rows(), p.Q.Where[0])
		}
		if may {
			some = append(some, g)
		}
	}
	if n, e := exec.Looked(p, segs...); n != len(some) || e != 0 {
		t.Fatal(n, len(some), e)
	}
	if rows, e := exec.Run(p, some...); told(rows) != want || e != 0 {
		t.Fatal(told(rows), want, e)
	}
}

func TestNothingIsShared(t *testing.T) {
	segs := example(t)
	p := prepare(t, ab, "select a as a, b as b")
	kept := prepare(t, ab, "select a as a, b as b")
	rows, _ := exec.Run(p, segs...)
	rows[0][0] = num(99)
	_ = append(rows[1], num(98))
	if again, e := exec.Run(p, segs...); told(again) != "1 'x'; 2 'y'; 3 'x'" || e != 0 || !reflect.DeepEqual(p, kept) {
		t.Error(told(again), e)
	}
}
