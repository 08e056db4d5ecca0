package order_test

import (
	"math"
	"math/rand"
	"reflect"
	"slices"
	"strings"
	"testing"

	"stackyard/api"
	"stackyard/order"
)

var null = api.Value{}

func num(n int64) api.Value   { return api.Value{Kind: api.KInt, N: n} }
func truth(n int64) api.Value { return api.Value{Kind: api.KBool, N: n} }
func text(s string) api.Value { return api.Value{Kind: api.KText, S: s} }

func up(i int) api.Key   { return api.Key{Item: i} }
func down(i int) api.Key { return api.Key{Item: i, Desc: true} }

var a, b, c = api.Row{num(2), text("a")}, api.Row{num(1), text("b")}, api.Row{num(2), text("c")}

func same(l, want []api.Row) bool {
	return slices.EqualFunc(l, want, func(a, b api.Row) bool { return slices.Equal(a, b) })
}

func wrong() []api.Value {
	return []api.Value{{Kind: 4}, {Kind: -1}, {N: 1}, truth(2), {Kind: api.KInt, S: "x"}, text(strings.Repeat("x", 1025))}
}

func TestCompare(t *testing.T) {
	for i, x := range []struct {
		a, b api.Row
		keys []api.Key
		want int
	}{
		{a, b, []api.Key{up(0)}, 1}, {b, a, []api.Key{up(0)}, -1}, {a, c, []api.Key{up(0)}, 0}, {a, c, []api.Key{up(0), up(1)}, -1}, {a, c, []api.Key{up(0), down(1)}, 1}, {a, b, []api.Key{down(0)}, -1}, {a, b, []api.Key{up(1), up(0)}, -1}, {a, b, nil, 0},
		{a, a, []api.Key{up(0), up(1)}, 0}, {api.Row{null}, api.Row{num(math.MinInt64)}, []api.Key{up(0)}, -1}, {api.Row{null}, api.Row{num(0)}, []api.Key{down(0)}, 1}, {api.Row{num(9)}, api.Row{truth(0)}, []api.Key{up(0)}, -1}, {api.Row{text("")}, api.Row{truth(1)}, []api.Key{up(0)}, 1},
		{api.Row{num(1)}, api.Row{num(1), num(2)}, []api.Key{up(0)}, 0}, {nil, nil, nil, 0}, {a, c, []api.Key{up(0), up(0), up(1)}, -1}, {b, a, []api.Key{up(0), down(0)}, -1},
	} {
		if n, e := order.Compare(x.a, x.b, x.keys...); n != x.want || e != 0 {
			t.Error(i, n, e)
		}
	}
	for i, key := range []int{2, -1, math.MaxInt, math.MinInt} {
		for _, rows := range [][2]api.Row{{a, b}, {append(slices.Clone(a), num(1)), b}, {a, append(slices.Clone(b), num(1))}} {
			if n, e := order.Compare(rows[0], rows[1], up(0), up(key)); n != 0 || e != api.ErrArg {
				t.Error(i, n, e)
			}
		}
	}
	for i, v := range wrong() {
		if n, e := order.Compare(a, api.Row{num(1), v}, up(0)); n != 0 || e != api.ErrArg {
			t.Error(i, n, e)
		}
		if n, e := order.Compare(api.Row{num(1), v}, a, up(0)); n != 0 || e != api.ErrArg {
			t.Error(i, n, e)
		}
	}
}

func TestSort(t *testing.T) {
	rows := []api.Row{a, b, c}
	for i, x := range []struct {
		keys []api.Key
		want []api.Row
	}{
		{[]api.Key{up(0)}, []api.Row{b, a, c}}, {[]api.Key{down(0), down(1)}, []api.Row{c, a, b}}, {nil, rows}, {[]api.Key{up(1)}, rows}, {[]api.Key{down(1)}, []api.Row{c, b, a}}, {[]api.Key{down(0)}, []api.Row{a, c, b}}, {[]api.Key{up(0), down(1)}, []api.Row{b, c, a}},
	} {
		if l, e := order.Sort(rows, x.keys...); !same(l, x.want) || e != 0 {
			t.Error(i, l, e)
		}
	}
	if l, e := order.Sort([]api.Row{{num(1)}, {null}}, up(0)); !same(l, []api.Row{{null}, {num(1)}}) || e != 0 {
		t.Error(l, e)
	}
	if l, e := order.Sort(nil, up(5), up(-1)); len(l) != 0 || e != 0 {
		t.Error(l, e)
	}
	if !same(rows, []api.Row{a, b, c}) {
		t.Error("the argument was changed")
	}
}

// rejected are lists of rows that no key 0, 1 may sort.
func rejected() [][]api.Row {
	l := [][]api.Row{{a, {num(1)}}, {{num(1)}, a}, {a, nil}, {a, b, {}}}
	for _, v := range wrong() {
		l = append(l, []api.Row{a, {num(1), v}}, []api.Row{{num(1), num(1), v}})
	}
	return l
}

func TestRejects(t *testing.T) {
	good := []api.Row{b, a}
	for i, rows := range rejected() {
		if l, e := order.Sort(rows, up(0), up(1)); len(l) != 0 || e != api.ErrArg {
			t.Error(i, l, e)
		}
		for _, n := range []int{-2, -1, 0, 1} {
			if l, e := order.First(rows, n, up(0), up(1)); len(l) != 0 || e != api.ErrArg {
				t.Error(i, l, e)
			}
		}
		if l, e := order.Merge(rows, good, up(0), up(1)); len(l) != 0 || e != api.ErrArg {
			t.Error(i, l, e)
		}
		if l, e := order.Merge(good, rows, up(0), up(1)); len(l) != 0 || e != api.ErrArg {
			t.Error(i, l, e)
		}
	}
	for _, key := range []int{-1, 2, math.MaxInt, math.MinInt} {
		if l, e := order.Sort(good, up(key)); len(l) != 0 || e != api.ErrArg {
			t.Error(key, l, e)
		}
		if l, e := order.First(good, 0, up(0), down(key)); len(l) != 0 || e != api.ErrArg {
			t.Error(key, l, e)
		}
		if l, e := order.Merge(good, nil, up(key)); len(l) != 0 || e != api.ErrArg {
			t.Error(key, l, e)
		}
		if l, e := order.Merge(nil, good, up(key)); len(l) != 0 || e != api.ErrArg {
			t.Error(key, l, e)
		}
	}
	for _, n := range []int{-2, math.MinInt} {
		if l, e := order.First(good, n, up(0)); len(l) != 0 || e != api.ErrArg {
			t.Error(n, l, e)
		}
	}
	for i, lists := range [][2][]api.Row{{{a, b}, nil}, {nil, {a, b}}, {{b, a}, {c, b}}, {{c, b}, {b}}} {
		if l, e := order.Merge(lists[0], lists[1], up(0)); len(l) != 0 || e != api.ErrArg {
			t.Error(i, l, e)
		}
	}
	if l, e := order.Merge([]api.Row{b, a}, nil, down(0)); len(l) != 0 || e != api.ErrArg {
		t.Error(l, e)
	}
	if l, e := order.Merge([]api.Row{c, a}, nil, up(0), up(1)); len(l) != 0 || e != api.ErrArg {
		t.Error(l, e)
	}
}

func TestFirst(t *testing.T) {
	rows := []api.Row{a, b, c}
	for _, x := range []struct {
		n    int
		want []api.Row
	}{{0, nil}, {1, []api.Row{b}}, {2, []api.Row{b, a}}, {3, []api.Row{b, a, c}}, {4, []api.Row{b, a, c}}, {-1, []api.Row{b, a, c}}, {math.MaxInt, []api.Row{b, a, c}}} {
		l, e := order.First(rows, x.n, up(0))
		if !same(l, x.want) || e != 0 {
			t.Error(x.n, l, e)
		}
		// nothing stands in the spare room
		for _, row := range l[len(l):cap(l)] {
			if row != nil {
				t.Error(x.n, row)
			}
		}
	}
	if l, e := order.First(rows, 1, up(1)); !same(l, []api.Row{a}) || e != 0 {
		t.Error(l, e)
	}
	if l, e := order.First(nil, 5); len(l) != 0 || e != 0 {
		t.Error(l, e)
	}
}

func TestMerge(t *testing.T) {
	for i, x := range []struct {
		a, b []api.Row
		keys []api.Key
		want []api.Row
	}{
		{[]api.Row{b, c}, []api.Row{a}, []api.Key{up(0)}, []api.Row{b, c, a}}, {[]api.Row{a}, []api.Row{b, c}, []api.Key{up(0)}, []api.Row{b, a, c}}, {nil, nil, []api.Key{up(0)}, nil}, {[]api.Row{b, a}, nil, []api.Key{up(0)}, []api.Row{b, a}}, {nil, []api.Row{b, a}, []api.Key{up(0)}, []api.Row{b, a}},
		{[]api.Row{c, b}, []api.Row{a}, nil, []api.Row{c, b, a}}, {[]api.Row{c, b}, []api.Row{a, b}, []api.Key{down(0)}, []api.Row{c, a, b, b}}, {[]api.Row{b}, []api.Row{b, a}, []api.Key{up(0), up(1)}, []api.Row{b, b, a}},
	} {
		if l, e := order.Merge(x.a, x.b, x.keys...); !same(l, x.want) || e != 0 {
			t.Error(i, l, e)
		}
	}
}

// slow sorts by taking the first of the least rows, again and again.
func slow(rows []api.Row, keys []api.Key) []api.Row {
	rows = slices.Clone(rows)
	var l []api.Row
	for len(rows) > 0 {
		least := 0
		for i, row := range rows {
			if n, _ := order.Compare(row, rows[least], keys...); n < 0 {
				least = i
			}
		}
		l = append(l, rows[least])
		rows = slices.Delete(rows, least, least+1)
	}
	return l
}

func TestRandom(t *testing.T) {
	r := rand.New(rand.NewSource(1))
	some := []api.Value{null, num(1), num(2), num(-3), truth(0), truth(1), text(""), text("a"), text("b")}
	for range 2000 {
		rows := make([]api.Row, r.Intn(20))
		for i := range rows {
			rows[i] = api.Row{some[r.Intn(9)], some[r.Intn(3)], num(int64(i))}
		}
		kept := make([]api.Row, len(rows))
		for i, row := range rows {
			kept[i] = slices.Clone(row)
		}
		var keys []api.Key
		for range r.Intn(4) {
			keys = append(keys, api.Key{Item: r.Intn(2), Desc: r.Intn(2) == 0})
		}
		want := slow(rows, keys)
		l, e := order.Sort(rows, keys...)
		if !same(l, want) || e != 0 {
			t.Fatal(keys, rows, l)
		}
		if again, e := order.Sort(l, keys...); !same(again, l) || e != 0 {
			t.Fatal(keys, rows)
		}
		cut := r.Intn(len(rows) + 1)
		if first, e := order.First(rows, cut, keys...); !same(first, want[:cut]) || e != 0 {
			t.Fatal(keys, rows, cut, first)
		}
		x, _ := order.Sort(rows[:cut], keys...)
		y, _ := order.Sort(rows[cut:], keys...)
		if m, e := order.Merge(x, y, keys...); !same(m, want) || e != 0 {
			t.Fatal(keys, rows, cut, m)
		}
		if len(l) > 0 {
			l[0][0] = text("changed")
			l[0] = nil
		}
		if !reflect.DeepEqual(rows, kept) {
			t.Fatal("the argument was changed, or is shared")
		}
	}
}

func TestMergeSharesNothing(t *testing.T) {
	x, y := []api.Row{slices.Clone(b)}, []api.Row{slices.Clone(a)}
	l, _ := order.Merge(x, y, up(0))
	l[0][0], l[1][0] = num(77), num(77)
	if !slices.Equal(x[0], b) || !slices.Equal(y[0], a) {
		t.Error("the result shares memory with an argument")
	}
}
