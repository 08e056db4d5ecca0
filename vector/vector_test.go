package vector_test

import (
	"math"
	"math/rand"
	"reflect"
	"slices"
	"testing"

	"stackyard/api"
	"stackyard/expr"
	"stackyard/vector"
)

var null = api.Value{}

func num(n int64) api.Value   { return api.Value{Kind: api.KInt, N: n} }
func truth(n int64) api.Value { return api.Value{Kind: api.KBool, N: n} }
func text(s string) api.Value { return api.Value{Kind: api.KText, S: s} }

func name(s string) api.Expr           { return api.Expr{Op: api.ECol, Name: s} }
func con(v api.Value) api.Expr         { return api.Expr{Op: api.EConst, V: v} }
func n(x int64) api.Expr               { return con(num(x)) }
func op(o int, k ...api.Expr) api.Expr { return api.Expr{Op: o, Kids: k} }

var one = []api.Column{{Name: "a", Kind: api.KInt, Null: true}}

var batch = [][]api.Value{{num(1), null, num(3)}}

var quotient = op(api.EDiv, n(6), op(api.ESub, name("a"), n(1)))

var cols = []api.Column{
	{Name: "a", Kind: api.KInt, Null: true}, {Name: "b", Kind: api.KInt}, {Name: "c", Kind: api.KBool, Null: true}, {Name: "d", Kind: api.KText, Null: true}, {Name: "e", Kind: api.KBool},
}

func someRows(r *rand.Rand, many int) []api.Row {
	var rows []api.Row
	for range many {
		row := api.Row{num(r.Int63n(9) - 4), num(int64(r.Uint64()) >> r.Intn(64)), truth(r.Int63n(2)), text("abab"[r.Intn(5):]), truth(r.Int63n(2))}
		for i, c := range cols {
			if c.Null && r.Intn(3) == 0 {
				row[i] = null
			}
		}
		rows = append(rows, row)
	}
	return rows
}

func TestTurnAndAll(t *testing.T) {
	b, e := vector.Turn(one, []api.Row{{num(1)}, {null}, {num(3)}})
	if !reflect.DeepEqual(b, batch) || e != 0 || !slices.Equal(vector.All(b), []int{0, 1, 2}) {
		t.Error(b, e, vector.All(b))
	}
	b, e = vector.Turn(cols, nil)
	if len(b) != 5 || len(b[4]) != 0 || e != 0 || len(vector.All(b)) != 0 {
		t.Error(b, e)
	}
	rows := someRows(rand.New(rand.NewSource(1)), 1024)
	b, e = vector.Turn(cols, rows)
	if e != 0 || len(b) != 5 {
		t.Fatal(e)
	}
	for i, row := range rows {
		for j, v := range row {
			if b[j][i] != v {
				t.Fatal(i, j)
			}
		}
	}
	if l := vector.All(b); len(l) != 1024 || l[0] != 0 || l[1023] != 1023 {
		t.Error(l)
	}
	if b, e := vector.Turn(cols, append(rows, rows[0])); len(b) != 0 || e != api.ErrArg {
		t.Error(e)
	}
	for i, bad := range []api.Row{nil, rows[0][:4], {num(1), null, null, null, truth(1)}, {text(""), num(1), null, null, truth(1)}, {null, num(1), null, null, truth(2)}} {
		if b, e := vector.Turn(cols, []api.Row{rows[0], bad}); len(b) != 0 || e != api.ErrArg {
			t.Error(i, b, e)
		}
	}
	for i, bad := range [][]api.Column{nil, {{Name: "A", Kind: 1}}, {one[0], one[0]}} {
		if b, e := vector.Turn(bad, make([]api.Row, 2000)); len(b) != 0 || e != api.ErrSchema {
			t.Error(i, b, e)
		}
	}
	for _, b := range [][][]api.Value{nil, {}, {{num(1)}, {}}, {make([]api.Value, 3000)}} {
		vector.All(b)
	}
}

func TestEvalExample(t *testing.T) {
	l, errs, e := vector.Eval(one, batch, []int{0, 1, 2}, quotient)
	if !slices.Equal(l, []api.Value{null, null, num(3)}) || !slices.Equal(errs, []api.Errno{api.ErrZero, 0, 0}) || e != 0 {
		t.Error(l, errs, e)
	}
	l, errs, e = vector.Eval(one, batch, []int{2}, quotient)
	if !slices.Equal(l, []api.Value{num(3)}) || !slices.Equal(errs, []api.Errno{0}) || e != 0 {
		t.Error(l, errs, e)
	}
	if l, errs, e := vector.Eval(one, batch, nil, quotient); len(l) != 0 || len(errs) != 0 || e != 0 {
		t.Error(l, errs, e)
	}
}

func TestFilterExample(t *testing.T) {
	less := op(api.ELess, n(1), name("a"))
	bad := op(api.EEq, quotient, n(3))
	for i, c := range []struct {
		choice []int
		x      api.Expr
		want   []int
		row    int
		e      api.Errno
	}{
		{[]int{0, 1, 2}, less, []int{2}, 0, 0}, {[]int{0, 1}, op(api.EIsNull, name("a")), []int{1}, 0, 0}, {[]int{0, 1, 2}, bad, nil, 0, api.ErrZero}, {[]int{1, 2}, bad, []int{2}, 0, 0}, {nil, bad, nil, 0, 0}, {[]int{0, 1, 2}, con(null), nil, 0, 0},
		{[]int{0, 2}, con(truth(1)), []int{0, 2}, 0, 0}, {[]int{0, 1, 2}, con(truth(0)), nil, 0, 0}, {[]int{0, 1, 2}, op(api.EEq, op(api.EDiv, n(1), op(api.ESub, name("a"), n(3))), n(1)), nil, 2, api.ErrZero},
		{[]int{0, 1, 2}, op(api.EEq, op(api.EAdd, n(math.MaxInt64-1), name("a")), n(1)), nil, 2, api.ErrOver},
	} {
		if l, row, e := vector.Filter(one, batch, c.choice, c.x); !slices.Equal(l, c.want) || row != c.row || e != c.e {
			t.Error(i, l, row, e)
		}
	}
}

func TestErrors(t *testing.T) {
	good := []int{0, 1, 2}
	for i, c := range []struct {
		cols         []api.Column
		batch        [][]api.Value
		choice       []int
		x            api.Expr
		eval, filter api.Errno
	}{
		{nil, nil, nil, api.Expr{}, api.ErrSchema, api.ErrSchema}, {one, nil, nil, api.Expr{}, api.ErrPlanForm, api.ErrPlanForm}, {one, nil, nil, name("z"), api.ErrPlanName, api.ErrPlanName}, {one, nil, nil, op(api.ENot, name("a")), api.ErrPlanType, api.ErrPlanType},
		{one, batch, good, name("a"), 0, api.ErrPlanType}, {one, nil, good, name("a"), api.ErrArg, api.ErrPlanType}, {one, batch, good, con(text("")), 0, api.ErrPlanType}, {one, batch, []int{3}, n(1), api.ErrArg, api.ErrPlanType},
		{one, nil, nil, con(null), api.ErrArg, api.ErrArg}, {one, [][]api.Value{}, nil, con(null), api.ErrArg, api.ErrArg}, {one, [][]api.Value{{num(1)}, {num(1)}}, nil, con(null), api.ErrArg, api.ErrArg}, {one, [][]api.Value{make([]api.Value, 1025)}, nil, con(null), api.ErrArg, api.ErrArg},
		{one, [][]api.Value{make([]api.Value, 1024)}, []int{1023}, con(null), 0, 0}, {one, [][]api.Value{{truth(1)}}, nil, con(null), api.ErrArg, api.ErrArg}, {one, [][]api.Value{{{Kind: api.KInt, S: "x"}}}, nil, con(null), api.ErrArg, api.ErrArg}, {one, [][]api.Value{{{N: 1}}}, nil, con(null), api.ErrArg, api.ErrArg},
		{one, batch, []int{-1}, con(null), api.ErrArg, api.ErrArg}, {one, batch, []int{3}, con(null), api.ErrArg, api.ErrArg}, {one, batch, []int{1, 0}, con(null), api.ErrArg, api.ErrArg}, {one, batch, []int{1, 1}, con(null), api.ErrArg, api.ErrArg}, {one, batch, []int{0, 1, 2, 2}, con(null), api.ErrArg, api.ErrArg},
		{one, batch, []int{math.MaxInt}, con(null), api.ErrArg, api.ErrArg}, {one, batch, []int{math.MinInt, 0}, con(null), api.ErrArg, api.ErrArg},
		{cols[:2], [][]api.Value{{num(1)}, {num(1), num(2)}}, nil, con(null), api.ErrArg, api.ErrArg}, {cols[:2], [][]api.Value{{num(1)}, {null}}, nil, con(null), api.ErrArg, api.ErrArg}, {cols[:2], [][]api.Value{{num(1)}}, nil, con(null), api.ErrArg, api.ErrArg},
		{cols[:2], [][]api.Value{{null}, {num(1)}}, nil, con(null), 0, 0},
	} {
		l, errs, e := vector.Eval(c.cols, c.batch, c.choice, c.x)
		if e != c.eval || e != 0 && (len(l) != 0 || len(errs) != 0) {
			t.Error(i, l, errs, e)
		}
		rows, row, e := vector.Filter(c.cols, c.batch, c.choice, c.x)
		if e != c.filter || row != 0 || e != 0 && len(rows) != 0 {
			t.Error(i, rows, row, e)
		}
	}
}

func grow(r *rand.Rand, depth int) api.Expr {
	if depth == 0 || r.Intn(5) == 0 {
		return []api.Expr{name(cols[r.Intn(5)].Name), name(cols[r.Intn(2)].Name), n(r.Int63n(9) - 4), con(truth(r.Int63n(2))), con(text("ab")), con(null), n(math.MaxInt64), n(math.MinInt64)}[r.Intn(8)]
	}
	o := api.EAdd + r.Intn(api.ELen-api.EAdd+1)
	if o == api.ENeg || o >= api.ENot {
		return op(o, grow(r, depth-1))
	}
	return op(o, grow(r, depth-1), grow(r, depth-1))
}

// Every row has the value, or the error, that expr.Eval tells for it.
func TestLikeExpr(t *testing.T) {
	r := rand.New(rand.NewSource(2))
	rows := someRows(r, 12)
	b, _ := vector.Turn(cols, rows)
	checked, failed := 0, 0
	for range 40000 {
		x := grow(r, 3)
		kind, typeE := expr.Type(cols, x)
		var choice []int
		for i := range rows {
			if r.Intn(2) == 0 {
				choice = append(choice, i)
			}
		}
		l, errs, e := vector.Eval(cols, b, choice, x)
		if e != typeE {
			t.Fatal(e, typeE)
		}
		if e != 0 {
			continue
		}
		checked++
		var want []int
		wantRow, wantE := 0, api.OK
		for i, row := range choice {
			v, e := expr.Eval(cols, rows[row], x)
			if l[i] != v || errs[i] != e {
				t.Fatal(x, rows[row], l[i], errs[i], v, e)
			}
			if e != 0 {
				failed++
				if wantE == 0 {
					wantRow, wantE = row, e
				}
			}
			if v == truth(1) {
				want = append(want, row)
			}
		}
		if wantE != 0 {
			want = nil
		}
		if kind == api.KInt || kind == api.KText {
			want, wantRow, wantE = nil, 0, api.ErrPlanType
		}
		if got, row, e := vector.Filter(cols, b, choice, x); !slices.Equal(got, want) || row != wantRow || e != wantE {
			t.Fatal(x, got, row, e)
		}
	}
	if checked < 4000 || failed < 1000 {
		t.Error("few expressions were right, or few had errors:", checked, failed)
	}
}

func TestNumbersLikeExpr(t *testing.T) {
	edges := []int64{0, 1, -1, 2, -2, 3, -3, 1 << 31, -(1 << 31), 1 << 32, -(1 << 32), 3037000499, 3037000500, -3037000500, math.MaxInt64, math.MinInt64, math.MaxInt64 - 1, math.MinInt64 + 1, math.MinInt64 / 2, math.MaxInt64/2 + 1}
	two := cols[1:2]
	var rows []api.Row
	for _, a := range edges {
		rows = append(rows, api.Row{num(a)})
	}
	b, _ := vector.Turn(two, rows)
	for _, c := range edges {
		for o := api.EAdd; o <= api.ERem; o++ {
			for _, x := range []api.Expr{op(o, name("b"), n(c)), op(o, n(c), name("b")), op(api.ENeg, name("b"))} {
				l, errs, e := vector.Eval(two, b, vector.All(b), x)
				for i, row := range rows {
					if v, rowE := expr.Eval(two, row, x); e != 0 || l[i] != v || errs[i] != rowE {
						t.Fatal(o, c, row, l[i], errs[i])
					}
				}
			}
		}
	}
}

// To filter by one condition, and the result by another, is to filter by both.
func TestFilterTwice(t *testing.T) {
	r := rand.New(rand.NewSource(3))
	b, _ := vector.Turn(cols, someRows(r, 50))
	checked := 0
	for range 20000 {
		x, y := grow(r, 2), grow(r, 2)
		l, _, e1 := vector.Filter(cols, b, vector.All(b), x)
		_, _, e2 := vector.Filter(cols, b, vector.All(b), y)
		if e1 != 0 || e2 != 0 {
			continue
		}
		checked++
		l, _, _ = vector.Filter(cols, b, l, y)
		both, _, e := vector.Filter(cols, b, vector.All(b), op(api.EAnd, x, y))
		if e != 0 || !slices.Equal(l, both) {
			t.Fatal(x, y, l, both)
		}
	}
	if checked < 300 {
		t.Error("few conditions were right:", checked)
	}
}

func TestArgumentsAreKept(t *testing.T) {
	r := rand.New(rand.NewSource(4))
	rows := someRows(r, 20)
	b, _ := vector.Turn(cols, rows)
	kept, _ := vector.Turn(cols, rows)
	choice := []int{1, 3, 5}
	l, _, _ := vector.Eval(cols, b, choice, name("b"))
	for i := range l {
		l[i] = num(7)
	}
	got, _, _ := vector.Filter(cols, b, choice, con(truth(1)))
	got[0] = 9
	rows[0][0] = num(99)
	if !reflect.DeepEqual(b, kept) || !slices.Equal(choice, []int{1, 3, 5}) {
		t.Error("an argument was changed, or is shared")
	}
}
