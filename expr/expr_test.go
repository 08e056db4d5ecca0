package expr_test

import (
	"math"
	"math/big"
	"math/rand"
	"reflect"
	"slices"
	"strings"
	"testing"

	"stackyard/api"
	"stackyard/expr"
)

var null = api.Value{}

func num(n int64) api.Value   { return api.Value{Kind: api.KInt, N: n} }
func truth(n int64) api.Value { return api.Value{Kind: api.KBool, N: n} }
func text(s string) api.Value { return api.Value{Kind: api.KText, S: s} }

func name(s string) api.Expr           { return api.Expr{Op: api.ECol, Name: s} }
func con(v api.Value) api.Expr         { return api.Expr{Op: api.EConst, V: v} }
func n(x int64) api.Expr               { return con(num(x)) }
func op(o int, k ...api.Expr) api.Expr { return api.Expr{Op: o, Kids: k} }

var cols = []api.Column{
	{Name: "a", Kind: api.KInt, Null: true}, {Name: "b", Kind: api.KInt}, {Name: "c", Kind: api.KBool, Null: true}, {Name: "d", Kind: api.KText, Null: true}, {Name: "e", Kind: api.KBool},
}

var row = api.Row{null, num(3), null, text("abc"), truth(1)}

// deep has so many levels, and as many nodes.
func deep(levels int) api.Expr {
	x := n(1)
	for range levels - 1 {
		x = op(api.ENeg, x)
	}
	return x
}

// wide has 2^levels - 1 nodes.
func wide(levels int) api.Expr {
	x := n(0)
	for range levels - 1 {
		x = op(api.EAdd, x, x)
	}
	return x
}

// ofNodes has exactly so many nodes, an odd number of at most some 600.
func ofNodes(many int) api.Expr {
	var grow func(many int) api.Expr
	grow = func(many int) api.Expr {
		if many == 1 {
			return n(1)
		}
		left := (many - 1) / 2
		if left%2 == 0 {
			left--
		}
		return op(api.EAdd, grow(left), grow(many-1-left))
	}
	return grow(many)
}

func wrongForms() []api.Expr {
	cyclic := op(api.ENeg, n(1))
	cyclic.Kids[0] = cyclic
	loop := make([]api.Expr, 2)
	loop[0], loop[1] = op(api.EAdd, loop...), op(api.EAdd, loop...)
	loop[0].Kids, loop[1].Kids = loop, loop
	return []api.Expr{
		{}, {Op: -1}, {Op: 17}, {Op: math.MinInt}, {Op: math.MaxInt}, {Op: api.ECol, Name: "b", V: num(1)}, {Op: api.ECol, Name: "b", Kids: []api.Expr{n(1)}}, {Op: api.ECol, Name: "b", V: api.Value{N: 1}},
		{Op: api.EConst, Name: "b"}, {Op: api.EConst, V: truth(2)}, {Op: api.EConst, V: api.Value{Kind: 4}}, {Op: api.EConst, V: api.Value{N: 3}}, {Op: api.EConst, V: num(1), Kids: []api.Expr{n(1)}},
		{Op: api.EConst, V: text(strings.Repeat("x", 1025))},
		op(0, n(1), n(1)), op(17, n(1), n(1)), op(-1, n(1), n(1)), op(math.MaxInt, n(1), n(1)), op(api.EAdd), op(api.EAdd, n(1)), op(api.EAdd, n(1), n(1), n(1)), op(api.ENeg), op(api.ENeg, n(1), n(1)), op(api.ENot, con(truth(1)), con(truth(1))), op(api.EIsNull), op(api.ELen),
		op(api.EEq, n(1)), op(api.EAnd, con(truth(1))), op(api.EOr), op(api.ELess, n(1)), op(api.ELessEq), op(api.ESub, n(1)), op(api.EMul, n(1)), op(api.EDiv, n(1)), op(api.ERem, n(1)),
		{Op: api.EAdd, Name: "b", Kids: []api.Expr{n(1), n(1)}}, {Op: api.EAdd, V: num(1), Kids: []api.Expr{n(1), n(1)}}, {Op: api.ENot, V: api.Value{S: "x"}, Kids: []api.Expr{con(truth(1))}},
		deep(41), deep(60000), wide(10), wide(40), ofNodes(401), cyclic, op(api.EAdd, loop...), op(api.EAdd, n(1), op(api.EMul, n(1), op(99))), op(api.EIsNull, api.Expr{}),
	}
}

func TestType(t *testing.T) {
	for i, c := range []struct {
		x    api.Expr
		want int
		e    api.Errno
	}{
		{name("a"), api.KInt, 0}, {name("c"), api.KBool, 0}, {name("d"), api.KText, 0}, {name("f"), 0, api.ErrPlanName}, {name(""), 0, api.ErrPlanName}, {name("A"), 0, api.ErrPlanName},
		{con(null), api.KNull, 0}, {n(1), api.KInt, 0}, {con(truth(0)), api.KBool, 0}, {con(text("x")), api.KText, 0},
		{op(api.EAdd, n(1), name("a")), api.KInt, 0}, {op(api.EAdd, con(null), con(null)), api.KInt, 0}, {op(api.ENeg, con(null)), api.KInt, 0}, {op(api.ENeg, name("d")), 0, api.ErrPlanType},
		{op(api.EAdd, name("c"), n(1)), 0, api.ErrPlanType}, {op(api.EAdd, n(1), name("c")), 0, api.ErrPlanType}, {op(api.ESub, name("d"), con(null)), 0, api.ErrPlanType},
		{op(api.EMul, con(null), name("d")), 0, api.ErrPlanType}, {op(api.EDiv, name("e"), name("e")), 0, api.ErrPlanType}, {op(api.ERem, n(1), con(text(""))), 0, api.ErrPlanType},
		{op(api.EEq, n(1), name("a")), api.KBool, 0}, {op(api.EEq, name("d"), con(text(""))), api.KBool, 0}, {op(api.EEq, name("c"), name("e")), api.KBool, 0}, {op(api.EEq, con(null), con(null)), api.KBool, 0},
		{op(api.EEq, con(null), name("d")), api.KBool, 0}, {op(api.ELess, name("c"), con(null)), api.KBool, 0}, {op(api.EEq, n(1), name("c")), 0, api.ErrPlanType}, {op(api.ELess, name("d"), n(1)), 0, api.ErrPlanType},
		{op(api.ELessEq, name("c"), name("d")), 0, api.ErrPlanType}, {op(api.ELessEq, n(1), n(2)), api.KBool, 0},
		{op(api.EAnd, name("c"), con(null)), api.KBool, 0}, {op(api.EOr, con(null), con(null)), api.KBool, 0}, {op(api.EAnd, name("b"), con(truth(1))), 0, api.ErrPlanType},
		{op(api.EAnd, con(truth(1)), name("b")), 0, api.ErrPlanType}, {op(api.EOr, name("d"), name("c")), 0, api.ErrPlanType}, {op(api.ENot, name("c")), api.KBool, 0}, {op(api.ENot, con(null)), api.KBool, 0},
		{op(api.ENot, n(1)), 0, api.ErrPlanType}, {op(api.EIsNull, name("d")), api.KBool, 0}, {op(api.EIsNull, con(null)), api.KBool, 0}, {op(api.ELen, name("d")), api.KInt, 0}, {op(api.ELen, con(null)), api.KInt, 0},
		{op(api.ELen, n(1)), 0, api.ErrPlanType}, {op(api.ELen, name("c")), 0, api.ErrPlanType},
		// the first error in the order of the nodes
		{op(api.EAnd, op(api.ENot, n(1)), name("z")), 0, api.ErrPlanType}, {op(api.EAnd, name("z"), op(api.ENot, n(1))), 0, api.ErrPlanName}, {op(api.EAnd, n(1), name("z")), 0, api.ErrPlanName},
		{op(api.EAnd, op(api.EAdd, n(1), n(1)), op(api.ENot, name("y"))), 0, api.ErrPlanName},
		{deep(40), api.KInt, 0}, {ofNodes(399), api.KInt, 0}, {wide(8), api.KInt, 0}, {op(api.ENeg, ofNodes(399)), api.KInt, 0},
	} {
		if kind, e := expr.Type(cols, c.x); kind != c.want || e != c.e {
			t.Error(i, kind, e)
		}
	}
	for i, x := range wrongForms() {
		if kind, e := expr.Type(cols, x); kind != 0 || e != api.ErrPlanForm {
			t.Error(i, kind, e)
		}
		if v, e := expr.Eval(cols, row, x); v != null || e != api.ErrPlanForm {
			t.Error(i, v, e)
		}
		if kind, e := expr.Type(nil, x); kind != 0 || e != api.ErrSchema {
			t.Error(i, kind, e)
		}
	}
	for i, bad := range [][]api.Column{nil, {{Name: "A", Kind: 1}}, {cols[0], cols[0]}, {{Name: "a", Kind: 0}}} {
		if kind, e := expr.Type(bad, n(1)); kind != 0 || e != api.ErrSchema {
			t.Error(i, kind, e)
		}
		if v, e := expr.Eval(bad, nil, n(1)); v != null || e != api.ErrSchema {
			t.Error(i, v, e)
		}
	}
}

func TestEvalExamples(t *testing.T) {
	a, b := name("a"), name("b")
	least, most := n(math.MinInt64), n(math.MaxInt64)
	for i, c := range []struct {
		x    api.Expr
		want api.Value
		e    api.Errno
	}{
		{op(api.EAdd, op(api.EMul, b, n(2)), n(1)), num(7), 0}, {op(api.EAdd, a, b), null, 0}, {op(api.EIsNull, a), truth(1), 0}, {op(api.EIsNull, b), truth(0), 0},
		{op(api.EDiv, b, n(0)), null, api.ErrZero}, {op(api.EDiv, a, n(0)), null, 0}, {op(api.EAdd, most, b), null, api.ErrOver}, {op(api.ERem, b, n(0)), null, api.ErrZero}, {op(api.ERem, a, n(0)), null, 0},
		{op(api.EDiv, n(0), a), null, 0},
		{op(api.EAnd, op(api.ELess, b, n(2)), op(api.EEq, a, n(1))), truth(0), 0}, {op(api.EAnd, op(api.EEq, a, n(1)), op(api.ELess, b, n(2))), truth(0), 0},
		{op(api.EOr, op(api.EEq, b, n(3)), op(api.EEq, a, n(1))), truth(1), 0}, {op(api.EOr, op(api.EEq, a, n(1)), op(api.EEq, b, n(3))), truth(1), 0},
		{op(api.EAnd, op(api.EEq, a, n(1)), op(api.EEq, b, n(3))), null, 0}, {op(api.EOr, op(api.EEq, a, n(1)), op(api.EEq, b, n(2))), null, 0}, {op(api.EAnd, con(null), con(null)), null, 0}, {op(api.EOr, con(null), con(null)), null, 0},
		{op(api.ENot, name("c")), null, 0}, {op(api.ENot, name("e")), truth(0), 0}, {op(api.ENot, con(truth(0))), truth(1), 0},
		{op(api.EDiv, least, n(-1)), null, api.ErrOver}, {op(api.ERem, least, n(-1)), num(0), 0}, {op(api.ENeg, least), null, api.ErrOver}, {op(api.ENeg, most), num(-math.MaxInt64), 0},
		{op(api.ESub, n(0), least), null, api.ErrOver}, {op(api.ESub, n(-1), least), num(math.MaxInt64), 0}, {op(api.EMul, least, n(-1)), null, api.ErrOver}, {op(api.EMul, n(-1), least), null, api.ErrOver},
		{op(api.EMul, n(1<<32), n(1<<31)), null, api.ErrOver}, {op(api.EMul, n(1<<32), n(-(1 << 31))), num(math.MinInt64), 0}, {op(api.EMul, n(0), least), num(0), 0}, {op(api.EMul, n(1<<32), n(1<<32)), null, api.ErrOver},
		{op(api.EDiv, n(7), n(2)), num(3), 0}, {op(api.EDiv, n(-7), n(2)), num(-3), 0}, {op(api.ERem, n(-7), n(2)), num(-1), 0}, {op(api.ERem, n(7), n(-2)), num(1), 0}, {op(api.EDiv, n(7), n(-2)), num(-3), 0},
		{op(api.EEq, name("d"), con(text("abc"))), truth(1), 0}, {op(api.ELess, con(text("ab")), name("d")), truth(1), 0}, {op(api.ELess, con(truth(0)), name("e")), truth(1), 0}, {op(api.ELessEq, b, n(3)), truth(1), 0},
		{op(api.ELess, b, n(3)), truth(0), 0}, {op(api.ELessEq, n(4), b), truth(0), 0}, {op(api.ELess, con(null), con(null)), null, 0}, {op(api.EEq, con(null), con(null)), null, 0}, {op(api.EEq, a, n(0)), null, 0}, {op(api.EEq, n(0), a), null, 0},
		{op(api.ELen, name("d")), num(3), 0}, {op(api.ELen, con(text("\u00e4"))), num(2), 0}, {op(api.ELen, con(text(""))), num(0), 0}, {op(api.ELen, con(null)), null, 0}, {op(api.EIsNull, op(api.EAdd, a, b)), truth(1), 0},
		{op(api.ENeg, a), null, 0}, {con(null), null, 0}, {a, null, 0}, {name("d"), text("abc"), 0},
		// no child is left out, and the first error ends the evaluation
		{op(api.EAnd, con(truth(0)), op(api.EEq, op(api.EDiv, n(1), n(0)), n(1))), null, api.ErrZero}, {op(api.EOr, con(truth(1)), op(api.EEq, op(api.EAdd, most, n(1)), n(1))), null, api.ErrOver},
		{op(api.EAdd, a, op(api.EDiv, n(1), n(0))), null, api.ErrZero}, {op(api.EAdd, op(api.EAdd, most, n(1)), op(api.EDiv, n(1), n(0))), null, api.ErrOver},
		{op(api.EAdd, op(api.EDiv, n(1), n(0)), op(api.EAdd, most, n(1))), null, api.ErrZero}, {op(api.EIsNull, op(api.EDiv, n(1), n(0))), null, api.ErrZero},
		{op(api.EAdd, b, op(api.ENot, n(1))), null, api.ErrPlanType}, {name("z"), null, api.ErrPlanName},
	} {
		if v, e := expr.Eval(cols, row, c.x); v != c.want || e != c.e {
			t.Error(i, v, e)
		}
	}
}

func TestEvalRejectsRows(t *testing.T) {
	for i, bad := range []api.Row{nil, row[:4], append(slices.Clone(row), null), {null, null, null, null, truth(1)}, {null, text(""), null, null, truth(1)}, {null, num(1), truth(2), null, truth(1)}} {
		if v, e := expr.Eval(cols, bad, n(1)); v != null || e != api.ErrArg {
			t.Error(i, v, e)
		}
		if v, e := expr.Eval(cols, bad, name("z")); v != null || e != api.ErrPlanName {
			t.Error(i, v, e)
		}
	}
}

// reckon is an operation on numbers of any size.
func reckon(o int, a, b int64) (api.Value, api.Errno) {
	x, y, z := big.NewInt(a), big.NewInt(b), new(big.Int)
	if (o == api.EDiv || o == api.ERem) && b == 0 {
		return null, api.ErrZero
	}
	switch o {
	case api.EAdd:
		z.Add(x, y)
	case api.ESub:
		z.Sub(x, y)
	case api.EMul:
		z.Mul(x, y)
	case api.EDiv:
		z.Quo(x, y)
	case api.ERem:
		z.Rem(x, y)
	}
	if !z.IsInt64() {
		return null, api.ErrOver
	}
	return num(z.Int64()), 0
}

func TestNumbers(t *testing.T) {
	edges := []int64{0, 1, -1, 2, -2, 3, -3, 7, -7, 10, math.MaxInt32, math.MinInt32, 1 << 32, -(1 << 32), 3037000499, 3037000500, -3037000500, math.MaxInt64, math.MinInt64, math.MaxInt64 - 1, math.MinInt64 + 1, math.MaxInt64 / 2, math.MinInt64 / 2}
	r := rand.New(rand.NewSource(1))
	for range 30 {
		edges = append(edges, int64(r.Uint64())>>r.Intn(64))
	}
	for _, a := range edges {
		for _, b := range edges {
			for o := api.EAdd; o <= api.ERem; o++ {
				want, wantE := reckon(o, a, b)
				if v, e := expr.Eval(cols, row, op(o, n(a), n(b))); v != want || e != wantE {
					t.Fatal(o, a, b, v, e)
				}
			}
		}
	}
}

// The laws of logic with three values.
func TestLogic(t *testing.T) {
	all := []api.Value{null, truth(0), truth(1)}
	eval := func(x api.Expr) api.Value {
		v, e := expr.Eval(cols, row, x)
		if e != 0 {
			t.Fatal(e)
		}
		return v
	}
	for _, a := range all {
		for _, b := range all {
			x, y := con(a), con(b)
			and, or := null, null
			switch {
			case a == truth(0) || b == truth(0):
				and = truth(0)
			case a == truth(1) && b == truth(1):
				and = truth(1)
			}
			switch {
			case a == truth(1) || b == truth(1):
				or = truth(1)
			case a == truth(0) && b == truth(0):
				or = truth(0)
			}
			if eval(op(api.EAnd, x, y)) != and || eval(op(api.EOr, x, y)) != or {
				t.Error(a, b)
			}
			if eval(op(api.ENot, op(api.EAnd, x, y))) != eval(op(api.EOr, op(api.ENot, x), op(api.ENot, y))) {
				t.Error(a, b)
			}
		}
	}
}

func TestUses(t *testing.T) {
	for i, c := range []struct {
		x    api.Expr
		want []string
	}{
		{op(api.EAdd, name("b"), op(api.ENeg, name("a"))), []string{"a", "b"}}, {n(1), nil}, {op(api.EEq, name("z"), op(api.EAdd, name("z"), name("Y"))), []string{"Y", "z"}}, {name(""), []string{""}},
		{op(api.EIsNull, op(api.ELen, name("q"))), []string{"q"}}, {op(api.EAnd, n(1), name("c")), []string{"c"}},
	} {
		if l := expr.Uses(c.x); !slices.Equal(l, c.want) {
			t.Error(i, l)
		}
	}
	for i, x := range wrongForms() {
		if l := expr.Uses(x); len(l) != 0 {
			t.Error(i, l)
		}
		if l := expr.Uses(op(api.EAdd, name("a"), x)); len(l) != 0 {
			t.Error(i, l)
		}
	}
}

func TestSame(t *testing.T) {
	build := func() []api.Expr {
		return []api.Expr{
			name("a"), name("b"), n(1), n(2), con(null), con(truth(1)), con(text("1")), con(text("")), op(api.EAdd, n(1), n(2)), op(api.EAdd, n(2), n(1)), op(api.ESub, n(1), n(2)), op(api.ENeg, n(1)), op(api.ENot, n(1)),
			op(api.EIsNull, op(api.ENeg, n(1))), op(api.EIsNull, op(api.ENeg, n(2))), op(api.EAdd, op(api.EAdd, n(1), n(1)), n(1)), op(api.EAdd, n(1), op(api.EAdd, n(1), n(1))), deep(40), ofNodes(399),
		}
	}
	a, b := build(), build()
	for i := range a {
		for j := range b {
			if expr.Same(a[i], b[j]) != (i == j) {
				t.Error(i, j)
			}
		}
	}
	if x := (api.Expr{Op: api.EConst, V: num(1), Kids: []api.Expr{}}); !expr.Same(x, n(1)) {
		t.Error("an empty list of kids is no kids")
	}
	for i, x := range wrongForms() {
		if expr.Same(x, x) || expr.Same(x, n(1)) || expr.Same(n(1), x) {
			t.Error(i)
		}
	}
}

// Columns that are not used make no difference, and the value is of the expression's kind or null.
func TestValuesOfKind(t *testing.T) {
	r := rand.New(rand.NewSource(2))
	var grow func(depth int) api.Expr
	grow = func(depth int) api.Expr {
		if depth == 0 || r.Intn(4) == 0 {
			return []api.Expr{name(cols[r.Intn(5)].Name), n(r.Int63n(9) - 4), con(truth(r.Int63n(2))), con(text("ab")), con(null)}[r.Intn(5)]
		}
		o := api.EAdd + r.Intn(api.ELen-api.EAdd+1)
		if o == api.ENeg || o >= api.ENot {
			return op(o, grow(depth-1))
		}
		return op(o, grow(depth-1), grow(depth-1))
	}
	good := 0
	for range 60000 {
		x := grow(3)
		kind, e := expr.Type(cols, x)
		if e != 0 {
			if v, e2 := expr.Eval(cols, row, x); v != null || e2 != e {
				t.Fatal(v, e, e2)
			}
			continue
		}
		good++
		v, e := expr.Eval(cols, row, x)
		if v != null && (v.Kind != kind || e != 0) {
			t.Fatal(v, kind, e)
		}
		other := slices.Clone(row)
		for i, c := range cols {
			if !slices.Contains(expr.Uses(x), c.Name) {
				other[i] = []api.Value{num(77), num(-8), truth(1), text("zzz"), truth(0)}[i]
			}
		}
		if v2, e2 := expr.Eval(cols, other, x); v2 != v || e2 != e {
			t.Fatal(v, v2, e, e2)
		}
	}
	if good < 5000 {
		t.Error("few expressions were right:", good)
	}
}

func TestArgumentsAreKept(t *testing.T) {
	build := func() api.Expr { return op(api.EAdd, op(api.EMul, name("b"), n(2)), name("a")) }
	x, r, c := build(), slices.Clone(row), slices.Clone(cols)
	expr.Type(c, x)
	expr.Eval(c, r, x)
	expr.Uses(x)
	expr.Same(x, x)
	if !reflect.DeepEqual(x, build()) || !slices.Equal(r, row) || !slices.Equal(c, cols) {
		t.Error("an argument was changed")
	}
}
