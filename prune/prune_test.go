package prune_test

import (
	"math"
	"math/rand"
	"strings"
	"testing"

	"stackyard/api"
	"stackyard/chunk"
	"stackyard/expr"
	"stackyard/prune"
	"stackyard/value"
)

var null = api.Value{}

func num(n int64) api.Value   { return api.Value{Kind: api.KInt, N: n} }
func truth(n int64) api.Value { return api.Value{Kind: api.KBool, N: n} }
func text(s string) api.Value { return api.Value{Kind: api.KText, S: s} }

func name(s string) api.Expr           { return api.Expr{Op: api.ECol, Name: s} }
func con(v api.Value) api.Expr         { return api.Expr{Op: api.EConst, V: v} }
func n(x int64) api.Expr               { return con(num(x)) }
func op(o int, k ...api.Expr) api.Expr { return api.Expr{Op: o, Kids: k} }

func zone(nulls int, least, most api.Value) api.Zone {
	return api.Zone{Nulls: nulls, Min: least, Max: most}
}

var one = []api.Column{{Name: "a", Kind: api.KInt}}

var five = []api.Zone{zone(0, num(5), num(9))}

var cols = []api.Column{
	{Name: "a", Kind: api.KInt}, {Name: "b", Kind: api.KInt, Null: true}, {Name: "c", Kind: api.KBool, Null: true}, {Name: "d", Kind: api.KText, Null: true}, {Name: "e", Kind: api.KBool}, {Name: "f", Kind: api.KInt, Null: true},
}

// zones of 4 rows: c has both truth values, e is always true, f is always null.
var zones = []api.Zone{zone(0, num(5), num(9)), zone(1, num(-2), num(2)), zone(2, truth(0), truth(1)), zone(0, text("b"), text("d")), zone(0, truth(1), truth(1)), zone(4, null, null)}

func TestExamples(t *testing.T) {
	a := name("a")
	for i, c := range []struct {
		x   api.Expr
		set int
		may bool
	}{
		{op(api.ELess, a, n(5)), 1, false}, {op(api.ELess, a, n(6)), 3, true}, {op(api.EEq, a, n(7)), 3, true}, {op(api.EIsNull, a), 1, false}, {op(api.ENot, op(api.ELessEq, a, n(9))), 1, false}, {op(api.ELess, a, con(null)), 4, false},
		{op(api.ELess, op(api.EAdd, a, n(1)), n(0)), 7, true}, {con(truth(1)), 2, true}, {con(truth(0)), 1, false}, {con(null), 4, false}, {op(api.EEq, a, n(4)), 1, false}, {op(api.EEq, a, n(10)), 1, false}, {op(api.EEq, a, n(5)), 3, true}, {op(api.EEq, n(9), a), 3, true},
		{op(api.ELess, a, n(10)), 2, true}, {op(api.ELess, a, n(9)), 3, true}, {op(api.ELessEq, a, n(9)), 2, true}, {op(api.ELessEq, a, n(4)), 1, false}, {op(api.ELessEq, a, n(5)), 3, true}, {op(api.ELess, n(9), a), 1, false}, {op(api.ELess, n(8), a), 3, true}, {op(api.ELess, n(4), a), 2, true},
		{op(api.ELess, n(5), a), 3, true}, {op(api.ELessEq, n(9), a), 3, true}, {op(api.ELessEq, n(10), a), 1, false}, {op(api.ELessEq, n(5), a), 2, true}, {op(api.ELess, a, a), 3, true}, {op(api.EEq, a, a), 3, true}, {op(api.EEq, n(1), n(1)), 2, true}, {op(api.EEq, n(1), n(2)), 1, false},
		{op(api.ELess, con(null), con(null)), 4, false}, {op(api.EIsNull, con(null)), 2, true}, {op(api.EIsNull, n(1)), 1, false}, {op(api.EIsNull, op(api.EIsNull, a)), 7, true}, {op(api.EEq, op(api.EIsNull, a), con(truth(1))), 7, true},
	} {
		if set, e := prune.Answers(one, five, 3, c.x); set != c.set || e != 0 {
			t.Error(i, set, e)
		}
		if may, e := prune.May(one, five, 3, c.x); may != c.may || e != 0 {
			t.Error(i, may, e)
		}
		empty := []api.Zone{{}}
		if set, e := prune.Answers(one, empty, 0, c.x); set != 0 || e != 0 {
			t.Error(i, set, e)
		}
		if may, e := prune.May(one, empty, 0, c.x); may || e != 0 {
			t.Error(i, may, e)
		}
	}
}

func TestManyColumns(t *testing.T) {
	a, b, c, d, e, f := name("a"), name("b"), name("c"), name("d"), name("e"), name("f")
	yes, no := con(truth(1)), con(truth(0))
	less := op(api.ELess, a, n(5))
	for i, x := range []struct {
		x   api.Expr
		set int
		may bool
	}{
		{c, 7, true}, {e, 2, true}, {op(api.ENot, c), 7, true}, {op(api.ENot, e), 1, false}, {op(api.EIsNull, b), 3, true}, {op(api.EIsNull, f), 2, true}, {op(api.EIsNull, d), 1, false}, {op(api.EEq, f, n(1)), 4, false}, {op(api.ELess, b, f), 4, false}, {op(api.ELess, b, n(-2)), 5, false},
		{op(api.ELess, b, n(3)), 6, true}, {op(api.EEq, b, a), 5, false}, {op(api.ELess, b, a), 6, true}, {op(api.ELess, a, b), 5, false}, {op(api.EEq, d, con(text("c"))), 3, true}, {op(api.EEq, d, con(text("a"))), 1, false}, {op(api.ELess, con(text("d")), d), 1, false}, {op(api.EEq, e, yes), 2, true}, {op(api.EEq, e, no), 1, false},
		{op(api.ELess, c, e), 7, true}, {op(api.ELess, e, c), 5, false}, {op(api.ELessEq, c, e), 6, true}, {op(api.EAnd, less, c), 1, false}, {op(api.EAnd, c, less), 1, false}, {op(api.EAnd, e, c), 7, true}, {op(api.EOr, e, c), 2, true}, {op(api.EOr, less, c), 7, true}, {op(api.EAnd, con(null), e), 4, false}, {op(api.EAnd, con(null), c), 5, false},
		{op(api.EOr, con(null), c), 6, true}, {op(api.EOr, con(null), less), 4, false}, {op(api.EAnd, con(null), less), 1, false}, {op(api.EOr, less, less), 1, false}, {op(api.ENot, con(null)), 4, false}, {op(api.ENot, op(api.ELess, b, n(-2))), 6, true},
		// what is not free of errors has to be examined
		{op(api.EAnd, less, op(api.EEq, op(api.ENeg, a), n(1))), 1, true}, {op(api.EAnd, no, op(api.EEq, op(api.EDiv, a, n(0)), n(1))), 1, true}, {op(api.EIsNull, op(api.ELen, d)), 7, true}, {op(api.EAnd, no, op(api.EEq, op(api.ELen, d), n(1))), 1, false},
		{op(api.EAnd, no, op(api.EEq, op(api.EAdd, a, a), n(1))), 1, true}, {op(api.EAnd, no, op(api.EEq, op(api.ESub, a, a), n(1))), 1, true}, {op(api.EAnd, no, op(api.EEq, op(api.EMul, a, a), n(1))), 1, true}, {op(api.EAnd, no, op(api.EEq, op(api.ERem, a, a), n(1))), 1, true},
	} {
		if set, e := prune.Answers(cols, zones, 4, x.x); set != x.set || e != 0 {
			t.Error(i, set, e)
		}
		if may, e := prune.May(cols, zones, 4, x.x); may != x.may || e != 0 {
			t.Error(i, may, e)
		}
	}
}

func TestErrors(t *testing.T) {
	yes := con(truth(1))
	for i, c := range []struct {
		cols  []api.Column
		zones []api.Zone
		n     int
		x     api.Expr
		want  api.Errno
	}{
		{nil, nil, -1, api.Expr{}, api.ErrSchema}, {one, nil, -1, api.Expr{}, api.ErrPlanForm}, {one, nil, -1, name("z"), api.ErrPlanName}, {one, nil, -1, op(api.ENot, name("a")), api.ErrPlanType}, {one, nil, -1, name("a"), api.ErrPlanType}, {one, five, 3, con(text("")), api.ErrPlanType}, {one, five, 3, n(1), api.ErrPlanType},
		{one, nil, 3, yes, api.ErrArg}, {one, five, -1, yes, api.ErrArg}, {one, five, 1025, yes, api.ErrArg}, {one, five, math.MaxInt, yes, api.ErrArg}, {one, five, math.MinInt, yes, api.ErrArg}, {one, five, 0, yes, api.ErrArg}, {one, append(five[:1:1], five[0]), 3, yes, api.ErrArg}, {one, five, 1024, yes, 0},
		{one, []api.Zone{{}}, 0, yes, 0}, {one, []api.Zone{{}}, 1, yes, api.ErrArg}, {one, []api.Zone{zone(1, num(5), num(9))}, 3, yes, api.ErrArg}, {one, []api.Zone{zone(-1, num(5), num(9))}, 3, yes, api.ErrArg}, {one, []api.Zone{zone(0, num(9), num(5))}, 3, yes, api.ErrArg}, {one, []api.Zone{zone(0, num(5), num(5))}, 3, yes, 0},
		{one, []api.Zone{zone(0, null, num(5))}, 3, yes, api.ErrArg}, {one, []api.Zone{zone(0, num(5), null)}, 3, yes, api.ErrArg}, {one, []api.Zone{zone(0, num(5), text("a"))}, 3, yes, api.ErrArg}, {one, []api.Zone{zone(0, truth(0), truth(1))}, 3, yes, api.ErrArg}, {one, []api.Zone{zone(0, api.Value{Kind: api.KInt, S: "x"}, num(5))}, 3, yes, api.ErrArg},
		{one, []api.Zone{zone(3, null, null)}, 3, yes, api.ErrArg}, {cols[1:2], []api.Zone{zone(3, null, null)}, 3, yes, 0}, {cols[1:2], []api.Zone{zone(3, num(1), num(1))}, 3, yes, api.ErrArg}, {cols[1:2], []api.Zone{zone(4, null, null)}, 3, yes, api.ErrArg}, {cols[1:2], []api.Zone{zone(2, null, null)}, 3, yes, api.ErrArg}, {cols[1:2], []api.Zone{zone(2, num(1), num(2))}, 3, yes, 0},
		{cols[1:2], []api.Zone{zone(3, null, num(1))}, 3, yes, api.ErrArg}, {cols[1:2], []api.Zone{zone(math.MaxInt, null, null)}, 3, yes, api.ErrArg}, {cols[3:4], []api.Zone{zone(0, text(""), text(strings.Repeat("x", 1025)))}, 3, yes, api.ErrArg}, {cols[1:2], []api.Zone{zone(3, null, api.Value{N: 1})}, 3, yes, api.ErrArg},
	} {
		if set, e := prune.Answers(c.cols, c.zones, c.n, c.x); e != c.want || e != 0 && set != 0 {
			t.Error(i, set, e)
		}
		if may, e := prune.May(c.cols, c.zones, c.n, c.x); e != c.want || e != 0 && may {
			t.Error(i, may, e)
		}
	}
}

func grow(r *rand.Rand, depth int) api.Expr {
	if depth == 0 || r.Intn(6) == 0 {
		return []api.Expr{name(cols[r.Intn(6)].Name), name(cols[r.Intn(3)].Name), n(r.Int63n(9) - 4), con(truth(r.Int63n(2))), con(text("abc"[r.Intn(4):])), con(null)}[r.Intn(6)]
	}
	o := []int{api.EAdd, api.EDiv, api.ENeg, api.EEq, api.ELess, api.ELessEq, api.EAnd, api.EOr, api.ENot, api.EIsNull, api.ELen, api.EEq, api.ELess, api.ELessEq, api.EAnd, api.EOr}[r.Intn(16)]
	if o == api.ENeg || o >= api.ENot {
		return op(o, grow(r, depth-1))
	}
	return op(o, grow(r, depth-1), grow(r, depth-1))
}

// slowAnswers goes over the table of possible results, word by word.
func slowAnswers(zones []api.Zone, rows int, x api.Expr) int {
	find := func(s string) api.Zone {
		for i, c := range cols {
			if c.Name == s {
				return zones[i]
			}
		}
		return api.Zone{}
	}
	isLeaf := func(x api.Expr) bool { return x.Op == api.ECol || x.Op == api.EConst }
	leaf := func(x api.Expr) api.Zone {
		if x.Op == api.ECol {
			return find(x.Name)
		}
		if x.V == null {
			return api.Zone{Nulls: rows}
		}
		return zone(0, x.V, x.V)
	}
	before := func(a, b api.Value) bool { return value.Compare(a, b) < 0 }
	out := 0
	add := func(set int, when bool) {
		if when {
			out |= set
		}
	}
	switch {
	case isLeaf(x):
		z := leaf(x)
		add(1, z.Min == truth(0))
		add(2, z.Max == truth(1))
		add(4, z.Nulls > 0)
	case x.Op == api.ENot:
		set := slowAnswers(zones, rows, x.Kids[0])
		add(1, set&2 != 0)
		add(2, set&1 != 0)
		add(4, set&4 != 0)
	case x.Op == api.EAnd || x.Op == api.EOr:
		logic := []api.Value{truth(0), truth(1), null}
		for i, a := range logic {
			for j, b := range logic {
				v, _ := expr.Eval(one, api.Row{num(0)}, op(x.Op, con(a), con(b)))
				for k, c := range logic {
					add(1<<k, c == v && slowAnswers(zones, rows, x.Kids[0])&(1<<i) != 0 && slowAnswers(zones, rows, x.Kids[1])&(1<<j) != 0)
				}
			}
		}
	case x.Op == api.EIsNull && isLeaf(x.Kids[0]):
		z := leaf(x.Kids[0])
		add(2, z.Nulls > 0)
		add(1, z.Nulls < rows)
	case x.Op >= api.EEq && x.Op <= api.ELessEq && isLeaf(x.Kids[0]) && isLeaf(x.Kids[1]):
		a, b := leaf(x.Kids[0]), leaf(x.Kids[1])
		add(4, a.Nulls > 0 || b.Nulls > 0)
		if a.Nulls == rows || b.Nulls == rows {
			break
		}
		switch x.Op {
		case api.EEq:
			add(2, !before(a.Max, b.Min) && !before(b.Max, a.Min))
			add(1, !(a.Min == a.Max && a.Max == b.Min && b.Min == b.Max))
		case api.ELess:
			add(2, before(a.Min, b.Max))
			add(1, !before(a.Max, b.Min))
		case api.ELessEq:
			add(2, !before(b.Max, a.Min))
			add(1, before(b.Min, a.Max))
		}
	default:
		return 7
	}
	return out
}

// Random rows with their zones: the results are as the table says, and no row has another one.
func TestRowsWithinZones(t *testing.T) {
	r := rand.New(rand.NewSource(1))
	checked, spared := 0, 0
	for range 20000 {
		many := 1 + r.Intn(4)
		low := r.Int63n(7) - 4
		rows := make([]api.Row, many)
		columns := make([][]api.Value, len(cols))
		for i := range rows {
			rows[i] = api.Row{num(low + r.Int63n(3)), num(r.Int63n(3)), truth(r.Int63n(2)), text("abc"[r.Intn(4):]), truth(r.Int63n(2)), num(low)}
			for j, c := range cols {
				if c.Null && r.Intn(2) == 0 {
					rows[i][j] = null
				}
				columns[j] = append(columns[j], rows[i][j])
			}
		}
		var z []api.Zone
		for _, l := range columns {
			x, _ := chunk.Zone(l)
			z = append(z, x)
		}
		x := grow(r, 3)
		kind, e := expr.Type(cols, x)
		if e != 0 || kind == api.KInt || kind == api.KText {
			continue
		}
		checked++
		set, e := prune.Answers(cols, z, many, x)
		if e != 0 || set != slowAnswers(z, many, x) {
			t.Fatal(x, z, set, e)
		}
		may, e := prune.May(cols, z, many, x)
		if e != 0 {
			t.Fatal(e)
		}
		if !may {
			spared++
		}
		for _, row := range rows {
			v, e := expr.Eval(cols, row, x)
			bit := map[api.Value]int{truth(0): 1, truth(1): 2, null: 4}[v]
			if e == 0 && set&bit == 0 || !may && (e != 0 || v == truth(1)) {
				t.Fatal(x, row, v, e, set, may)
			}
		}
	}
	if checked < 2000 || spared < 300 {
		t.Error("few conditions were right, or few spared anything:", checked, spared)
	}
}
