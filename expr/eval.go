package expr

import (
	"math"

	"stackyard/api"
	"stackyard/schema"
	"stackyard/value"
)

// The results of three-valued logic, as indexes into its tables.
const (
	no = iota
	yes
	unknown
)

var (
	both = [3][3]int{
		{no, no, no},
		{no, yes, unknown},
		{no, unknown, unknown},
	}
	either = [3][3]int{
		{no, yes, unknown},
		{yes, yes, yes},
		{unknown, yes, unknown},
	}
)

// Eval is the value of an expression for a row.
func Eval(cols []api.Column, row api.Row, x api.Expr) (api.Value, api.Errno) {
	if _, e := Type(cols, x); e != api.OK {
		return api.Value{}, e
	}
	if !schema.Fits(cols, row) {
		return api.Value{}, api.ErrArg
	}
	return eval(cols, row, x)
}

// eval is the value of a well-formed expression whose kinds are right.
func eval(cols []api.Column, row api.Row, x api.Expr) (api.Value, api.Errno) {
	switch x.Op {
	case api.ECol:
		return row[schema.Find(cols, x.Name)], api.OK
	case api.EConst:
		return x.V, api.OK
	}
	var kids [2]api.Value
	for i, kid := range x.Kids {
		v, e := eval(cols, row, kid)
		if e != api.OK {
			return api.Value{}, e
		}
		kids[i] = v
	}
	return apply(x.Op, kids[0], kids[1], len(x.Kids))
}

// apply is what an operator makes of its one or two operands.
func apply(op int, a, b api.Value, many int) (api.Value, api.Errno) {
	switch op {
	case api.EIsNull:
		return truth(isNull(a)), api.OK
	case api.EAnd:
		return fromLogic(both[logic(a)][logic(b)]), api.OK
	case api.EOr:
		return fromLogic(either[logic(a)][logic(b)]), api.OK
	}
	if isNull(a) || many == 2 && isNull(b) {
		return api.Value{}, api.OK
	}
	switch op {
	case api.ENot:
		return truth(a.N == 0), api.OK
	case api.EEq:
		return truth(value.Compare(a, b) == 0), api.OK
	case api.ELess:
		return truth(value.Compare(a, b) < 0), api.OK
	case api.ELessEq:
		return truth(value.Compare(a, b) <= 0), api.OK
	case api.ELen:
		return number(int64(len(a.S)), api.OK)
	case api.ENeg:
		return number(calculate(api.ESub, 0, a.N))
	}
	return number(calculate(op, a.N, b.N))
}

func isNull(v api.Value) bool { return v.Kind == api.KNull }

func truth(is bool) api.Value {
	if is {
		return api.Value{Kind: api.KBool, N: 1}
	}
	return api.Value{Kind: api.KBool}
}

func logic(v api.Value) int {
	if isNull(v) {
		return unknown
	}
	return int(v.N)
}

func fromLogic(l int) api.Value {
	if l == unknown {
		return api.Value{}
	}
	return truth(l == yes)
}

func number(n int64, e api.Errno) (api.Value, api.Errno) {
	if e != api.OK {
		return api.Value{}, e
	}
	return api.Value{Kind: api.KInt, N: n}, api.OK
}

// calculate is the result of an operation on numbers, if it has 64 bits.
func calculate(op int, a, b int64) (int64, api.Errno) {
	switch {
	case (op == api.EDiv || op == api.ERem) && b == 0:
		return 0, api.ErrZero
	case isOver(op, a, b):
		return 0, api.ErrOver
	}
	switch op {
	case api.EAdd:
		return a + b, api.OK
	case api.ESub:
		return a - b, api.OK
	case api.EMul:
		return a * b, api.OK
	case api.EDiv:
		return a / b, api.OK
	}
	return a % b, api.OK
}

func isOver(op int, a, b int64) bool {
	switch op {
	case api.EAdd:
		return b > 0 && a > math.MaxInt64-b || b < 0 && a < math.MinInt64-b
	case api.ESub:
		return b > 0 && a < math.MinInt64+b || b < 0 && a > math.MaxInt64+b
	case api.EMul:
		// The smallest number and -1 have no quotient that would tell.
		return a == -1 && b == math.MinInt64 || b == -1 && a == math.MinInt64 || a != 0 && a*b/a != b
	case api.EDiv:
		return a == math.MinInt64 && b == -1
	}
	return false
}
