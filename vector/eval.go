package vector

import (
	"math/bits"

	"stackyard/api"
	"stackyard/schema"
	"stackyard/value"
)

// results are a value for each selected row, or an error and null.
type results struct {
	values []api.Value
	errors []api.Errno
}

// evaluate goes over all selected rows with one node, before it goes on to the next one.
func evaluate(cols []api.Column, batch [][]api.Value, choice []int, x api.Expr) results {
	r := results{make([]api.Value, len(choice)), make([]api.Errno, len(choice))}
	switch x.Op {
	case api.ECol:
		l := batch[schema.Find(cols, x.Name)]
		for row, i := range rowsOf(choice) {
			r.values[i] = l[row]
		}
		return r
	case api.EConst:
		for i := range r.values {
			r.values[i] = x.V
		}
		return r
	}
	a := evaluate(cols, batch, choice, x.Kids[0])
	b := a
	if len(x.Kids) == 2 {
		b = evaluate(cols, batch, choice, x.Kids[1])
	}
	apply := operation(x.Op)
	for i := range r.values {
		switch {
		case a.errors[i] != api.OK:
			r.errors[i] = a.errors[i]
		case b.errors[i] != api.OK:
			r.errors[i] = b.errors[i]
		default:
			r.values[i], r.errors[i] = apply(a.values[i], b.values[i])
		}
	}
	return r
}

// operation is what an operator does; one with a single operand is given it twice.
func operation(op int) func(a, b api.Value) (api.Value, api.Errno) {
	switch op {
	case api.EIsNull:
		return func(a, _ api.Value) (api.Value, api.Errno) { return truth(isNull(a)), api.OK }
	case api.EAnd:
		return func(a, b api.Value) (api.Value, api.Errno) { return fromRank(min(rank(a), rank(b))), api.OK }
	case api.EOr:
		return func(a, b api.Value) (api.Value, api.Errno) { return fromRank(max(rank(a), rank(b))), api.OK }
	case api.EEq:
		return comparison(func(c int) bool { return c == 0 })
	case api.ELess:
		return comparison(func(c int) bool { return c < 0 })
	case api.ELessEq:
		return comparison(func(c int) bool { return c <= 0 })
	case api.ENot:
		return orNull(func(a, _ api.Value) (api.Value, api.Errno) { return truth(a.N == 0), api.OK })
	case api.ELen:
		return orNull(func(a, _ api.Value) (api.Value, api.Errno) { return number(int64(len(a.S))), api.OK })
	case api.ENeg:
		return orNull(func(a, _ api.Value) (api.Value, api.Errno) { return subtract(0, a.N) })
	}
	calculate := calculation(op)
	return orNull(func(a, b api.Value) (api.Value, api.Errno) { return calculate(a.N, b.N) })
}

func isNull(v api.Value) bool { return v.Kind == api.KNull }

func truth(is bool) api.Value {
	v := api.Value{Kind: api.KBool}
	if is {
		v.N = 1
	}
	return v
}

func number(n int64) api.Value { return api.Value{Kind: api.KInt, N: n} }

// rank puts null between false and true: then the lesser one is what both make by "and", the greater one by "or".
func rank(v api.Value) int {
	switch {
	case isNull(v):
		return 1
	case v.N == 1:
		return 2
	}
	return 0
}

func fromRank(rank int) api.Value {
	if rank == 1 {
		return api.Value{}
	}
	return truth(rank == 2)
}

// orNull is an operation that is null if an operand is.
func orNull(apply func(a, b api.Value) (api.Value, api.Errno)) func(a, b api.Value) (api.Value, api.Errno) {
	return func(a, b api.Value) (api.Value, api.Errno) {
		if isNull(a) || isNull(b) {
			return api.Value{}, api.OK
		}
		return apply(a, b)
	}
}

func comparison(holds func(int) bool) func(a, b api.Value) (api.Value, api.Errno) {
	return orNull(func(a, b api.Value) (api.Value, api.Errno) { return truth(holds(value.Compare(a, b))), api.OK })
}

func calculation(op int) func(a, b int64) (api.Value, api.Errno) {
	switch op {
	case api.EAdd:
		return add
	case api.ESub:
		return subtract
	case api.EMul:
		return multiply
	case api.EDiv:
		return divide
	}
	return remainder
}

func add(a, b int64) (api.Value, api.Errno) {
	n := a + b
	if (a^n)&(b^n) < 0 {
		return api.Value{}, api.ErrOver
	}
	return number(n), api.OK
}

func subtract(a, b int64) (api.Value, api.Errno) {
	n := a - b
	if (a^b)&(a^n) < 0 {
		return api.Value{}, api.ErrOver
	}
	return number(n), api.OK
}

func multiply(a, b int64) (api.Value, api.Errno) {
	high, low := bits.Mul64(uint64(a), uint64(b))
	// The high half counts both factors as unsigned: what that adds for a negative one is taken away.
	signed := int64(high) - (a>>63)&b - (b>>63)&a
	if signed != int64(low)>>63 {
		return api.Value{}, api.ErrOver
	}
	return number(int64(low)), api.OK
}

func divide(a, b int64) (api.Value, api.Errno) {
	switch b {
	case 0:
		return api.Value{}, api.ErrZero
	case -1:
		return subtract(0, a)
	}
	return number(a / b), api.OK
}

func remainder(a, b int64) (api.Value, api.Errno) {
	if b == 0 {
		return api.Value{}, api.ErrZero
	}
	return number(a % b), api.OK
}
