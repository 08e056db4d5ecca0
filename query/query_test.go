package query_test

import (
	"fmt"
	"math"
	"math/rand"
	"strings"
	"testing"

	"stackyard/api"
	"stackyard/expr"
	"stackyard/query"
)

func num(n int64) api.Value   { return api.Value{Kind: api.KInt, N: n} }
func truth(n int64) api.Value { return api.Value{Kind: api.KBool, N: n} }
func text(s string) api.Value { return api.Value{Kind: api.KText, S: s} }

func name(s string) api.Expr           { return api.Expr{Op: api.ECol, Name: s} }
func con(v api.Value) api.Expr         { return api.Expr{Op: api.EConst, V: v} }
func n(x int64) api.Expr               { return con(num(x)) }
func op(o int, k ...api.Expr) api.Expr { return api.Expr{Op: o, Kids: k} }

// same tells whether two results are the same; an empty list is as good as none.
func same(a, b any) bool { return fmt.Sprintf("%+v", a) == fmt.Sprintf("%+v", b) }

// alone is the query whose only item is an expression.
func alone(x api.Expr) api.Query {
	return api.Query{Items: []api.Item{{Name: "x", X: x}}, Limit: -1}
}

func TestCanonicalForms(t *testing.T) {
	for _, c := range [][2]string{
		{"select a as a where a<1 limit 3", "select a as a where a < 1 limit 3"},
		{"select sum( a*(b+1) ) as s group by c order by s desc", "select sum(a * (b + 1)) as s group by c order by s desc"},
		{"select - 5 as x", "select -5 as x"}, {"select -(5) as x", "select -(5) as x"}, {"select - - a as x", "select --a as x"}, {"select - - 5 as x", "select -(-5) as x"},
		{"select -\n5 as x", "select -5 as x"}, {"select -0 as x", "select 0 as x"}, {"select -(a) as x", "select -a as x"}, {"select -(a+b) as x", "select -(a + b) as x"}, {"select -(a*b) as x", "select -(a * b) as x"},
		{"select -a*b as x", "select -a * b as x"}, {"select -5*b as x", "select -5 * b as x"}, {"select -null as x", "select -null as x"}, {"select -'a' as x", "select -'a' as x"}, {"select -(null) as x", "select -null as x"},
		{"select -(-a) as x", "select --a as x"}, {"select -len(a) as x", "select -len(a) as x"}, {"select -(not a) as x", "select -(not a) as x"},
		{"select a-b-c as x", "select a - b - c as x"}, {"select (a-b)-c as x", "select a - b - c as x"}, {"select a-(b-c) as x", "select a - (b - c) as x"}, {"select a-5 as x", "select a - 5 as x"}, {"select a--5 as x", "select a - -5 as x"},
		{"select a- -b as x", "select a - -b as x"}, {"select a-(-b) as x", "select a - -b as x"}, {"select a*(b/c)%d as x", "select a * (b / c) % d as x"}, {"select (a*b)/c as x", "select a * b / c as x"}, {"select (a+b)*c as x", "select (a + b) * c as x"},
		{"select a+b*c as x", "select a + b * c as x"}, {"select (a*b)+c as x", "select a * b + c as x"}, {"select a+(b*c) as x", "select a + b * c as x"}, {"select a%(b) as x", "select a % b as x"},
		{"select a and b or c as x", "select a and b or c as x"}, {"select a and (b or c) as x", "select a and (b or c) as x"}, {"select (a or b) or c as x", "select a or b or c as x"}, {"select a or (b or c) as x", "select a or (b or c) as x"},
		{"select a and (b and c) as x", "select a and (b and c) as x"}, {"select (a or b) and c as x", "select (a or b) and c as x"}, {"select a or (b and c) as x", "select a or b and c as x"},
		{"select not a and b as x", "select not a and b as x"}, {"select not (a and b) as x", "select not (a and b) as x"}, {"select not(not a) as x", "select not not a as x"}, {"select (not a) is null as x", "select (not a) is null as x"},
		{"select not a is null as x", "select not a is null as x"}, {"select not (a is null) as x", "select not a is null as x"}, {"select (a is null) is null as x", "select (a is null) is null as x"}, {"select a=b is null as x", "select a = b is null as x"},
		{"select (a=b) is null as x", "select a = b is null as x"}, {"select a=(b is null) as x", "select a = (b is null) as x"}, {"select (a<b)=c as x", "select (a < b) = c as x"}, {"select a<=(b=c) as x", "select a <= (b = c) as x"},
		{"select a+b<=c*d as x", "select a + b <= c * d as x"}, {"select (a)=((b)) as x", "select a = b as x"}, {"select (not a)=b as x", "select (not a) = b as x"}, {"select a=not_b as x", "select a = not_b as x"}, {"select (a and b)=c as x", "select (a and b) = c as x"},
		{"select len ( a+1 ) as x", "select len(a + 1) as x"}, {"select len((a)) as x", "select len(a) as x"}, {"select len(a or b) as x", "select len(a or b) as x"}, {"select (a+b) is null as x", "select a + b is null as x"},
		{"select count ( * ) as x", "select count(*) as x"}, {"select count((a or b)) as x", "select count(a or b) as x"}, {"select min(a) as x, max( b ) as y,sum(c)as z", "select min(a) as x, max(b) as y, sum(c) as z"},
		{"select 'it''s' as x", "select 'it''s' as x"}, {"select '' as x", "select '' as x"}, {"select ' ;A\x00\xff' as x", "select ' ;A\x00\xff' as x"}, {"select true as x,false as y,null as z", "select true as x, false as y, null as z"},
		{"\n select\n\na\nas\nx \n", "select a as x"}, {"select 1as x", "select 1 as x"}, {"select(a)as x where(b)group by(c),d order by x desc,x limit 0", "select a as x where b group by c, d order by x desc, x limit 0"},
		{"select a as x, b as x order by x", "select a as x, b as x order by x"}, {"select a as x limit 4096", "select a as x limit 4096"}, {"select a<b as x", "select a < b as x"}, {"select selecta as x", "select selecta as x"},
		{"select 9223372036854775807 as x", "select 9223372036854775807 as x"}, {"select -9223372036854775808 as x", "select -9223372036854775808 as x"}, {"select - 9223372036854775808 as x", "select -9223372036854775808 as x"},
		{"select a- -9223372036854775808 as x", "select a - -9223372036854775808 as x"},
	} {
		q, at, e := query.Parse(c[0])
		if e != 0 || at != 0 {
			t.Errorf("%q: %d %d", c[0], at, e)
			continue
		}
		if s, e := query.Show(q); s != c[1] || e != 0 {
			t.Errorf("%q: %q %d", c[0], s, e)
		}
		again, at, e := query.Parse(c[1])
		if !query.Same(q, again) || !same(q, again) || at != 0 || e != 0 {
			t.Errorf("%q: %v %v", c[0], q, again)
		}
	}
}

func TestMeanings(t *testing.T) {
	a, b, c := name("a"), name("b"), name("c")
	for s, x := range map[string]api.Expr{
		"a - b - c": op(api.ESub, op(api.ESub, a, b), c), "a + b * c": op(api.EAdd, a, op(api.EMul, b, c)), "a / b % c": op(api.ERem, op(api.EDiv, a, b), c), "a or b and c": op(api.EOr, a, op(api.EAnd, b, c)),
		"not a = b": op(api.ENot, op(api.EEq, a, b)), "not a and b": op(api.EAnd, op(api.ENot, a), b), "a < b is null": op(api.EIsNull, op(api.ELess, a, b)), "not a is null": op(api.ENot, op(api.EIsNull, a)), "a <= b": op(api.ELessEq, a, b),
		"-5": n(-5), "- 5": n(-5), "-(5)": op(api.ENeg, n(5)), "--5": op(api.ENeg, n(-5)), "-a": op(api.ENeg, a), "--a": op(api.ENeg, op(api.ENeg, a)), "a - 5": op(api.ESub, a, n(5)), "a - -5": op(api.ESub, a, n(-5)), "-5 * a": op(api.EMul, n(-5), a),
		"-a * b": op(api.EMul, op(api.ENeg, a), b), "a * -b": op(api.EMul, a, op(api.ENeg, b)), "len('x')": op(api.ELen, con(text("x"))), "true": con(truth(1)), "false": con(truth(0)), "null": con(api.Value{}), "'a''b'": con(text("a'b")), "''''": con(text("'")),
		"(a)": a, "12": n(12), "a or b or c": op(api.EOr, op(api.EOr, a, b), c), "a = b + c": op(api.EEq, a, op(api.EAdd, b, c)), "-9223372036854775808": n(math.MinInt64), "9223372036854775807": n(math.MaxInt64),
	} {
		q, at, e := query.Parse("select " + s + " as x")
		if !same(q, alone(x)) || at != 0 || e != 0 {
			t.Errorf("%s: %v %d %d", s, q, at, e)
		}
	}
	q, _, e := query.Parse("select count(*) as n, sum(a) as s, count(b) as m, min(a) as i, max(a) as j, a as s where a < 1 group by a, b order by s desc, n limit 7")
	want := api.Query{
		Items: []api.Item{{Name: "n", Agg: api.AggAll, X: api.Expr{}}, {Name: "s", Agg: api.AggSum, X: a}, {Name: "m", Agg: api.AggCount, X: b}, {Name: "i", Agg: api.AggMin, X: a}, {Name: "j", Agg: api.AggMax, X: a}, {Name: "s", Agg: api.AggNone, X: a}},
		Where: []api.Expr{op(api.ELess, a, n(1))}, Group: []api.Expr{a, b}, Order: []api.Key{{Item: 1, Desc: true}, {Item: 0}}, Limit: 7,
	}
	if !same(q, want) || e != 0 {
		t.Error(q, e)
	}
	if q, _, _ := query.Parse("select a as x"); q.Limit != -1 || len(q.Where) != 0 || len(q.Group) != 0 || len(q.Order) != 0 {
		t.Error(q)
	}
}

func TestParseRejects(t *testing.T) {
	long := "select " + strings.Repeat(" ", 4096-len("select a as x")) + "a as x"
	if _, at, e := query.Parse(long[:7] + long[8:]); at != 0 || e != 0 {
		t.Error(at, e)
	}
	if _, at, e := query.Parse(long[7:] + ";;;;;;;;"); at != 0 || e != api.ErrQueryLong {
		t.Error(at, e)
	}
	many := func(n int, s string) string { return strings.TrimSuffix(strings.Repeat(s+", ", n), ", ") }
	for s, want := range map[string]int{
		"select a": 8, "select a as a limit x": 20, "select ; as a": 7, "": 0, " ": 1, "a": 0, "select": 6, "select ": 7, "select as x": 7, "select a as": 11, "select a as select": 12, "select a as 5": 12, "select a as 'x'": 12, "select a as x,": 14,
		"select a as x x": 14, "select a as x where": 19, "select a as x where group": 20, "select a as x group a": 20, "select a as x group by": 22, "select a as x order by": 22, "select a as x order by x,": 25, "select a as x order by 1": 23, "select a as x limit": 19,
		"select a as x limit 1 2": 22, "select a as x limit -1": 20, "select a as x limit 'a'": 20, "select a as x limit 1 where a": 22, "select a as x order by x group by a": 25, "select a as x where a where b": 22, "select a as x order by x desc desc": 30, "select a as x order by x asc": 25,
		"select a = b = c as x": 13, "select a < b <= c as x": 13, "select a is null is null as x": 17, "select a is b as x": 12, "select a is not null as x": 12, "select not as x": 11, "select a = not b as x": 11, "select (a as x": 10, "select a) as x": 8, "select () as x": 8, "select a + as x": 11,
		"select a b as x": 9, "select 5 5 as x": 9, "select 1a as x": 8, "select * as x": 7, "select count(*) + 1 as x": 16, "select count(* as x": 15, "select count() as x": 13, "select sum(*) as x": 11, "select sum(a) + 1 as x": 14, "select 1 + sum(a) as x": 11, "select sum as x": 11,
		"select count as x": 13, "select len as x": 11, "select len() as x": 11, "select len a as x": 11, "select a as len": 12, "select a as count": 12, "select desc as x": 7, "select a as x, where a": 15, "select a as x limit limit": 20, "select sum((count(*))) as x": 12, "select -as x": 8, "select a <  = b as x": 12,
		// what belongs to no token comes ahead of all else
		"select a as x A": 14, "b ; a": 2, "select 'a as x": 7, "select 'a'' as x": 7, "select a as x where 'b' 'c": 24, "select a\tas x": 8, "select a as x\r": 13, "select a > b as x": 9, "select a != b as x": 9, "select _a as x": 7, "select a as x \"": 14, "x x x x \xc3": 8, "select a.b as x": 8, "select \x00": 7, "'": 0,
		"select 'a' 'b as x": 11,
	} {
		q, at, e := query.Parse(s)
		if at != want || e != api.ErrQueryForm || !same(q, api.Query{}) {
			t.Errorf("%q: %d %d, not %d", s, at, e, want)
		}
	}
	for _, s := range []string{
		"select 9223372036854775808 as x", "select a-9223372036854775808 as x", "select -(9223372036854775808) as x", "select -9223372036854775809 as x", "select 99999999999999999999 as x", "select a as x limit 4097", "select a as x limit 99999999999999999999",
		"select a as x order by y", "select " + many(17, "a as x"), "select a as x group by a, a, a, a, a", "select a as x order by x, x, x, x, x", "select " + strings.Repeat("-", 40) + "a as x", "select " + strings.Repeat("a + ", 40) + "a as x",
		"select 'a' = '" + strings.Repeat("x", 1025) + "' as x", "select a as " + strings.Repeat("y", 25), "select " + strings.Repeat("y", 25) + " as x", "select a as x where " + strings.Repeat("y", 25) + " = 1", "select a as x group by " + strings.Repeat("y", 25),
		"select sum(" + strings.Repeat("y", 25) + ") as x", "select " + strings.Repeat("a+", 1000) + "a as x", "select " + strings.Repeat("(", 2000) + "a" + strings.Repeat(")", 2000) + " + " + strings.Repeat("-", 40) + "a as x",
	} {
		q, at, e := query.Parse(s)
		if at != 0 || e != api.ErrQueryForm || !same(q, api.Query{}) {
			t.Errorf("%.60q: %d %d", s, at, e)
		}
	}
	for _, s := range []string{
		"select " + many(16, "a as x"), "select a as x group by a, a, a, a", "select a as x order by x, x, x, x", "select " + strings.Repeat("-", 39) + "a as x", "select a as " + strings.Repeat("y", 24), "select '" + strings.Repeat("x", 1024) + "' as x",
		"select " + strings.Repeat("(", 2000) + "a" + strings.Repeat(")", 2000) + " as x",
	} {
		if _, at, e := query.Parse(s); at != 0 || e != 0 {
			t.Errorf("%.60q: %d %d", s, at, e)
		}
	}
}

// A text of at most 4096 bytes whose canonical form has more means no valid query.
func TestLongCanonicalForm(t *testing.T) {
	name := strings.Repeat("b", 24)
	item := strings.Repeat(name+"%", 9) + name + " as x"
	text := "select " + strings.TrimSuffix(strings.Repeat(item+",", 16), ",")
	if len(text) > 4096 {
		t.Fatal("the text is too long:", len(text))
	}
	if _, at, e := query.Parse(text); at != 0 || e != api.ErrQueryForm {
		t.Error(at, e)
	}
	if _, at, e := query.Parse(strings.ReplaceAll(text, name, name[:20])); at != 0 || e != 0 {
		t.Error(at, e)
	}
}

func TestShowRejects(t *testing.T) {
	item := api.Item{Name: "x", X: name("a")}
	ok := api.Query{Items: []api.Item{item}, Limit: -1}
	if s, e := query.Show(ok); s != "select a as x" || e != 0 {
		t.Fatal(s, e)
	}
	items := func(l ...api.Item) api.Query { return api.Query{Items: l, Limit: -1} }
	deep := name("a")
	for range 40 {
		deep = op(api.ENeg, deep)
	}
	cyclic := op(api.ENeg, n(1))
	cyclic.Kids[0] = cyclic
	longText := con(text(strings.Repeat("x", 1024)))
	many := func(n int) (l []api.Item) {
		for range n {
			l = append(l, item)
		}
		return l
	}
	with := func(change func(q *api.Query)) api.Query {
		q := items(item, api.Item{Name: "x", X: name("b")}, api.Item{Name: "y", X: name("c")})
		change(&q)
		return q
	}
	for i, q := range []api.Query{
		{}, {Limit: -1}, items(many(17)...), items(api.Item{Name: "X", X: name("a")}), items(api.Item{Name: "", X: name("a")}), items(api.Item{Name: "select", X: name("a")}), items(api.Item{Name: "min", X: name("a")}), items(api.Item{Name: strings.Repeat("x", 25), X: name("a")}),
		items(api.Item{Name: "x", Agg: -1, X: name("a")}), items(api.Item{Name: "x", Agg: 6, X: name("a")}), items(api.Item{Name: "x"}), items(api.Item{Name: "x", Agg: api.AggSum}), items(api.Item{Name: "x", Agg: api.AggAll, X: name("a")}), items(api.Item{Name: "x", Agg: api.AggAll, X: api.Expr{Name: "a"}}),
		items(api.Item{Name: "x", Agg: api.AggAll, X: api.Expr{V: num(1)}}), items(api.Item{Name: "x", Agg: api.AggAll, X: api.Expr{Kids: []api.Expr{{}}}}), alone(name("A")), alone(name("")), alone(name("or")), alone(name("a b")), alone(name(strings.Repeat("x", 25))), alone(deep), alone(cyclic), alone(op(api.EAdd, n(1))),
		alone(op(99, n(1))), alone(con(truth(2))), alone(op(api.ENot, name("desc"))), items(api.Item{Name: "x", X: longText}, api.Item{Name: "y", X: longText}, api.Item{Name: "z", X: longText}, api.Item{Name: "w", X: longText}),
		with(func(q *api.Query) { q.Where = []api.Expr{name("a"), name("b")} }), with(func(q *api.Query) { q.Where = []api.Expr{{}} }), with(func(q *api.Query) { q.Where = []api.Expr{name("by")} }), with(func(q *api.Query) { q.Where = []api.Expr{deep} }),
		with(func(q *api.Query) { q.Group = []api.Expr{n(1), n(1), n(1), n(1), n(1)} }), with(func(q *api.Query) { q.Group = []api.Expr{name("a"), {}} }), with(func(q *api.Query) { q.Group = []api.Expr{name("group")} }), with(func(q *api.Query) { q.Order = make([]api.Key, 5) }),
		with(func(q *api.Query) { q.Order = []api.Key{{Item: 3}} }), with(func(q *api.Query) { q.Order = []api.Key{{Item: -1}} }), with(func(q *api.Query) { q.Order = []api.Key{{Item: 0}, {Item: 1}} }), with(func(q *api.Query) { q.Order = []api.Key{{Item: math.MaxInt}} }),
		with(func(q *api.Query) { q.Limit = -2 }), with(func(q *api.Query) { q.Limit = 4097 }), with(func(q *api.Query) { q.Limit = math.MinInt }), with(func(q *api.Query) { q.Limit = math.MaxInt }),
	} {
		if s, e := query.Show(q); s != "" || e != api.ErrQueryForm {
			t.Error(i, s, e)
		}
		if query.Same(q, q) || query.Same(q, ok) || query.Same(ok, q) {
			t.Error(i)
		}
	}
	for _, q := range []api.Query{items(many(16)...), with(func(q *api.Query) { q.Order = make([]api.Key, 4) }), with(func(q *api.Query) { q.Order = []api.Key{{Item: 2}} }), with(func(q *api.Query) { q.Limit = 0 }), with(func(q *api.Query) { q.Limit = 4096 })} {
		if s, e := query.Show(q); s == "" || e != 0 || !query.Same(q, q) {
			t.Error(s, e)
		}
	}
}

func TestLongestText(t *testing.T) {
	// select '' as x, '' as y, '' as z, '' as w
	length := len("select '' as x, '' as y, '' as z, '' as w")
	build := func(last int) api.Query {
		x := con(text(strings.Repeat("x", 1024)))
		return api.Query{Items: []api.Item{{Name: "x", X: x}, {Name: "y", X: x}, {Name: "z", X: x}, {Name: "w", X: con(text(strings.Repeat("x", last)))}}, Limit: -1}
	}
	last := 4096 - length - 3*1024
	if s, e := query.Show(build(last)); len(s) != 4096 || e != 0 {
		t.Error(len(s), e)
	}
	if s, e := query.Show(build(last + 1)); s != "" || e != api.ErrQueryForm {
		t.Error(len(s), e)
	}
	s, _ := query.Show(build(last))
	if q, at, e := query.Parse(s); !query.Same(q, build(last)) || at != 0 || e != 0 {
		t.Error(at, e)
	}
}

// randomQuery is a valid query, most often.
func randomQuery(r *rand.Rand) api.Query {
	names := []string{"a", "b_1", "selected", "x"}
	var grow func(depth int) api.Expr
	grow = func(depth int) api.Expr {
		if depth == 0 || r.Intn(5) == 0 {
			return []api.Expr{name(names[r.Intn(4)]), n(r.Int63n(20) - 10), con(truth(r.Int63n(2))), con(text("a'b"[r.Intn(3):])), con(api.Value{}), n(int64(r.Uint64()))}[r.Intn(6)]
		}
		o := api.EAdd + r.Intn(api.ELen-api.EAdd+1)
		if o == api.ENeg || o >= api.ENot {
			return op(o, grow(depth-1))
		}
		return op(o, grow(depth-1), grow(depth-1))
	}
	q := api.Query{Limit: r.Intn(4) - 1}
	for range 1 + r.Intn(3) {
		item := api.Item{Name: names[r.Intn(4)], Agg: r.Intn(6)}
		if item.Agg != api.AggAll {
			item.X = grow(4)
		}
		q.Items = append(q.Items, item)
	}
	if r.Intn(2) == 0 {
		q.Where = []api.Expr{grow(4)}
	}
	for range r.Intn(3) {
		q.Group = append(q.Group, grow(3))
	}
	for range r.Intn(3) {
		q.Order = append(q.Order, api.Key{Item: r.Intn(len(q.Items)), Desc: r.Intn(2) == 0})
	}
	return q
}

func TestBothWays(t *testing.T) {
	r := rand.New(rand.NewSource(1))
	good := 0
	for range 8000 {
		q := randomQuery(r)
		s, e := query.Show(q)
		if e != 0 {
			continue
		}
		good++
		back, at, e := query.Parse(s)
		if e != 0 || at != 0 || !query.Same(back, q) || !same(back.Items, q.Items) || !same(back, q) {
			t.Fatalf("%s: %d %d", s, at, e)
		}
		for _, x := range append(q.Where, q.Group...) {
			if !expr.Same(x, x) {
				t.Fatal(s)
			}
		}
	}
	if good < 4000 {
		t.Error("few queries were valid:", good)
	}
}

func TestSame(t *testing.T) {
	r := rand.New(rand.NewSource(2))
	var l []api.Query
	for len(l) < 150 {
		if q := randomQuery(r); query.Same(q, q) {
			l = append(l, q)
		}
	}
	for i, a := range l {
		for j, b := range l {
			if query.Same(a, b) != same(a, b) {
				t.Error(i, j)
			}
		}
	}
}

// The grammar again, to be matched in every possible way: a list is a sequence, and what begins with a sign is explained there.
var grammar = map[string][]string{
	"Query": {"select Item Items Where Group Order Limit end"},
	"Items": {"", ", Item Items"}, "Where": {"", "where Or"}, "Group": {"", "group by Or Ors"}, "Ors": {"", ", Or Ors"}, "Order": {"", "order by Key Keys"}, "Keys": {"", ", Key Keys"}, "Limit": {"", "limit NUMBER"},
	"Item": {"Gather as NAME"}, "Gather": {"count ( * )", "count ( Or )", "sum ( Or )", "min ( Or )", "max ( Or )", "Or"}, "Key": {"NAME", "NAME desc"},
	"Or": {"And OrTail"}, "OrTail": {"", "or And OrTail"}, "And": {"Not AndTail"}, "AndTail": {"", "and Not AndTail"}, "Not": {"not Not", "Is"}, "Is": {"Rel", "Rel is null"}, "Rel": {"Sum", "Sum = Sum", "Sum < Sum", "Sum <= Sum"},
	"Sum": {"Prod SumTail"}, "SumTail": {"", "+ Prod SumTail", "- Prod SumTail"}, "Prod": {"Minus ProdTail"}, "ProdTail": {"", "* Minus ProdTail", "/ Minus ProdTail", "% Minus ProdTail"}, "Minus": {"- Minus", "Atom"},
	"Atom": {"NUMBER", "TEXT", "true", "false", "null", "NAME", "len ( Or )", "( Or )"},
}

// furthest is the index of the first token that no Query has there; len(tokens) is the end.
func furthest(tokens []string) (int, bool) {
	far, whole := 0, false
	steps := 0
	var match func(at int, rest []string)
	match = func(at int, rest []string) {
		steps++
		if steps > 20000 {
			return
		}
		far = max(far, at)
		if len(rest) == 0 {
			return
		}
		if rules, ok := grammar[rest[0]]; ok {
			for _, rule := range rules {
				match(at, append(strings.Fields(rule), rest[1:]...))
			}
			return
		}
		if rest[0] == "end" {
			whole = whole || at == len(tokens)
			return
		}
		if at == len(tokens) {
			return
		}
		kind := tokens[at]
		switch c := kind[0]; {
		case '0' <= c && c <= '9':
			kind = "NUMBER"
		case c == '\'':
			kind = "TEXT"
		case kind == "a" || kind == "b":
			kind = "NAME"
		}
		if kind == rest[0] {
			match(at+1, rest[1:])
		}
	}
	match(0, []string{"Query"})
	if steps > 20000 {
		return -1, false
	}
	return far, whole
}

func TestSyntaxErrors(t *testing.T) {
	r := rand.New(rand.NewSource(3))
	words := strings.Fields("select where group by order limit as and or not is null true false len desc count sum min max a b 1 2 'x' ( ) , + - * / % = < <= a as b , ( ) a 1")
	starts := [][]string{nil, {"select"}, {"select", "a"}, {"select", "a", "as", "b"}, {"select", "count", "("}, {"select", "a", "as", "b", "where", "a"}, {"select", "a", "as", "b", "order", "by", "b"}, {"select", "a", "is"}, {"select", "not", "a", "="}, {"select", "len", "("}, {"select", "(", "a", "+"}}
	checked := 0
	for range 8000 {
		tokens := append([]string{}, starts[r.Intn(len(starts))]...)
		for range r.Intn(6) {
			tokens = append(tokens, words[r.Intn(len(words))])
		}
		far, whole := furthest(tokens)
		if far < 0 {
			continue
		}
		checked++
		// blanks change nothing but the indexes
		s, places := "", []int{}
		for _, token := range tokens {
			s += strings.Repeat(" ", 1+r.Intn(2))[:r.Intn(2)] + []string{" ", "\n"}[r.Intn(2)]
			places = append(places, len(s))
			s += token
		}
		places = append(places, len(s))
		q, at, e := query.Parse(s)
		if whole {
			if at != 0 || e == 0 && !query.Same(q, q) || e != 0 && e != api.ErrQueryForm {
				t.Fatalf("%q: %d %d", s, at, e)
			}
			continue
		}
		if at != places[far] || e != api.ErrQueryForm || !same(q, api.Query{}) {
			t.Fatalf("%q: %d %d, not %d", s, at, e, places[far])
		}
	}
	if checked < 6000 {
		t.Error("few texts were checked:", checked)
	}
}
