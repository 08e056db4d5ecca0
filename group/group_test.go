package group_test

import (
	"math"
	"math/big"
	"math/rand"
	"reflect"
	"slices"
	"strings"
	"testing"

	"stackyard/api"
	"stackyard/group"
	"stackyard/value"
)

var null = api.Value{}

func num(n int64) api.Value   { return api.Value{Kind: api.KInt, N: n} }
func truth(n int64) api.Value { return api.Value{Kind: api.KBool, N: n} }
func text(s string) api.Value { return api.Value{Kind: api.KText, S: s} }

func wrong() []api.Value {
	return []api.Value{{Kind: 4}, {Kind: -1}, {N: 1}, truth(2), {Kind: api.KInt, S: "x"}, text(strings.Repeat("x", 1025))}
}

func table(t *testing.T, aggs ...int) *group.Table {
	g, e := group.New(aggs...)
	if e != 0 {
		t.Fatal(e)
	}
	return g
}

func add(t *testing.T, g *group.Table, key, vals api.Row) {
	if e := g.Add(key, vals); e != 0 {
		t.Fatal(key, vals, e)
	}
}

func check(t *testing.T, g *group.Table, keys, rows []api.Row) {
	k, r, e := g.Answer()
	if e != 0 || g.Groups() != len(keys) || len(k) != len(keys) || len(r) != len(rows) {
		t.Fatal(k, r, e)
	}
	for i := range k {
		if !slices.Equal(k[i], keys[i]) || !slices.Equal(r[i], rows[i]) {
			t.Error(i, k[i], r[i])
		}
	}
}

func TestNew(t *testing.T) {
	for _, aggs := range [][]int{nil, {1}, {1, 2, 3, 4, 5}, slices.Repeat([]int{5}, 16)} {
		if g, e := group.New(aggs...); g == nil || e != 0 || g.Groups() != 0 {
			t.Error(aggs, e)
		}
	}
	for _, aggs := range [][]int{{0}, {6}, {-1}, {1, 0}, {math.MaxInt}, {math.MinInt}, slices.Repeat([]int{1}, 17)} {
		if g, e := group.New(aggs...); g != nil || e != api.ErrArg {
			t.Error(aggs, e)
		}
	}
}

func TestExample(t *testing.T) {
	g := table(t, api.AggAll, api.AggSum)
	check(t, g, nil, nil)
	x, y := api.Row{text("x")}, api.Row{text("y")}
	add(t, g, x, api.Row{null, num(5)})
	for i, e := range []api.Errno{
		g.Add(api.Row{text("x"), text("z")}, api.Row{null, num(1)}), g.Add(x, api.Row{null, truth(1)}), g.Add(x, api.Row{null, truth(0)}), g.Add(x, api.Row{null, text("")}), g.Add(nil, api.Row{null, num(1)}), g.Add(x, api.Row{null}),
		g.Add(x, api.Row{null, num(1), num(1)}), g.Add(x, nil), g.Add(y, api.Row{null}), g.Add(api.Row{text("z")}, api.Row{null, truth(0)}),
	} {
		if e != api.ErrArg {
			t.Error(i, e)
		}
	}
	for i, v := range wrong() {
		if e := g.Add(api.Row{v}, api.Row{null, num(1)}); e != api.ErrArg {
			t.Error(i, e)
		}
		if e := g.Add(x, api.Row{v, num(1)}); e != api.ErrArg {
			t.Error(i, e)
		}
		if e := g.Add(x, api.Row{null, v}); e != api.ErrArg {
			t.Error(i, e)
		}
	}
	check(t, g, []api.Row{x}, []api.Row{{num(1), num(5)}})
	add(t, g, y, api.Row{null, num(1)})
	add(t, g, x, api.Row{null, null})
	check(t, g, []api.Row{x, y}, []api.Row{{num(2), num(5)}, {num(1), num(1)}})
}

func TestNil(t *testing.T) {
	var g *group.Table
	if e := g.Add(nil, nil); e != api.ErrNil {
		t.Error(e)
	}
	if k, r, e := g.Answer(); len(k) != 0 || len(r) != 0 || e != api.ErrNil {
		t.Error(k, r, e)
	}
	if g.Groups() != 0 {
		t.Error(g.Groups())
	}
}

// An Add that is rejected does not say how long keys are.
func TestRejectedFirst(t *testing.T) {
	g := table(t, api.AggSum)
	if e := g.Add(api.Row{num(1), num(2)}, api.Row{truth(1)}); e != api.ErrArg {
		t.Error(e)
	}
	add(t, g, api.Row{num(1)}, api.Row{num(2)})
	check(t, g, []api.Row{{num(1)}}, []api.Row{{num(2)}})
}

func TestKeys(t *testing.T) {
	g := table(t, api.AggAll)
	keys := []api.Row{{null, null}, {num(0), null}, {truth(0), null}, {text(""), null}, {text("a"), text("b")}, {text("ab"), text("")}, {text(""), text("ab")}, {num(1), truth(1)}, {truth(1), num(1)}, {text("\x00"), null}, {null, num(0)}}
	var want []api.Row
	for i, key := range keys {
		for range i + 1 {
			add(t, g, key, api.Row{text("x")})
		}
		want = append(want, api.Row{num(int64(i + 1))})
	}
	check(t, g, keys, want)
	empty := table(t)
	add(t, empty, nil, nil)
	add(t, empty, api.Row{}, api.Row{})
	check(t, empty, []api.Row{{}}, []api.Row{{}})
}

func TestAggregates(t *testing.T) {
	for i, c := range []struct {
		agg  int
		vals []api.Value
		want api.Value
	}{
		{api.AggAll, []api.Value{null, num(1), text("")}, num(3)}, {api.AggCount, []api.Value{null, num(1), text("")}, num(2)}, {api.AggCount, []api.Value{null}, num(0)}, {api.AggSum, []api.Value{null}, null}, {api.AggSum, []api.Value{null, num(0)}, num(0)},
		{api.AggSum, []api.Value{num(3), num(-5)}, num(-2)}, {api.AggMin, []api.Value{null, null}, null}, {api.AggMax, []api.Value{null}, null}, {api.AggMin, []api.Value{null, num(3), num(2), num(4)}, num(2)}, {api.AggMax, []api.Value{num(3), null, num(4), num(2)}, num(4)},
		{api.AggMin, []api.Value{text("b"), truth(1), truth(0)}, truth(0)}, {api.AggMax, []api.Value{num(9), text(""), truth(1)}, text("")}, {api.AggMin, []api.Value{text("b"), text("ab")}, text("ab")}, {api.AggMax, []api.Value{num(-7)}, num(-7)}, {api.AggMin, []api.Value{num(math.MaxInt64)}, num(math.MaxInt64)},
		{api.AggSum, []api.Value{num(math.MaxInt64), num(1), num(-1)}, num(math.MaxInt64)}, {api.AggSum, []api.Value{num(math.MinInt64), num(-1), num(1)}, num(math.MinInt64)}, {api.AggSum, []api.Value{num(math.MinInt64), num(math.MinInt64), num(math.MaxInt64), num(math.MaxInt64)}, num(-2)},
		{api.AggMax, []api.Value{num(math.MinInt64)}, num(math.MinInt64)},
	} {
		g := table(t, c.agg)
		for _, v := range c.vals {
			add(t, g, nil, api.Row{v})
		}
		check(t, g, []api.Row{nil}, []api.Row{{c.want}})
		// the order of the rows makes no difference
		g = table(t, c.agg)
		for j := range c.vals {
			add(t, g, nil, api.Row{c.vals[len(c.vals)-1-j]})
		}
		if check(t, g, []api.Row{nil}, []api.Row{{c.want}}); t.Failed() {
			t.Fatal(i)
		}
	}
}

func TestSumsThatAreTooGreat(t *testing.T) {
	for i, vals := range [][]int64{{math.MaxInt64, 1}, {math.MinInt64, -1}, slices.Repeat([]int64{math.MaxInt64}, 5), slices.Repeat([]int64{math.MinInt64}, 4)} {
		g := table(t, api.AggAll, api.AggSum)
		add(t, g, api.Row{num(1)}, api.Row{null, num(3)})
		for _, n := range vals {
			add(t, g, api.Row{num(2)}, api.Row{null, num(n)})
		}
		if k, r, e := g.Answer(); len(k) != 0 || len(r) != 0 || e != api.ErrOver {
			t.Error(i, k, r, e)
		}
		if g.Groups() != 2 {
			t.Error(g.Groups())
		}
		// what follows may bring the sum back
		for _, n := range vals {
			if n == math.MinInt64 {
				add(t, g, api.Row{num(2)}, api.Row{null, num(1)})
				n++
			}
			add(t, g, api.Row{num(2)}, api.Row{null, num(-n)})
		}
		if _, r, e := g.Answer(); e != 0 || r[1][1] != num(0) {
			t.Error(i, r, e)
		}
	}
}

func TestManyGroups(t *testing.T) {
	g := table(t, api.AggCount)
	for i := range 4096 {
		add(t, g, api.Row{num(int64(i))}, api.Row{num(1)})
	}
	if e := g.Add(api.Row{num(4096)}, api.Row{num(1)}); e != api.ErrMany {
		t.Error(e)
	}
	if e := g.Add(api.Row{num(4096)}, nil); e != api.ErrArg {
		t.Error(e)
	}
	if e := g.Add(api.Row{num(4095)}, api.Row{num(1)}); e != 0 || g.Groups() != 4096 {
		t.Error(e)
	}
	k, r, e := g.Answer()
	if e != 0 || len(k) != 4096 || k[4095][0] != num(4095) || r[4095][0] != num(2) || r[0][0] != num(1) {
		t.Error(e)
	}
}

// Random rows, gathered again by big numbers.
func TestLikeBigNumbers(t *testing.T) {
	r := rand.New(rand.NewSource(1))
	for range 200 {
		g := table(t, api.AggAll, api.AggCount, api.AggSum, api.AggMin, api.AggMax)
		var order []int64
		sums, alls, counts := map[int64]*big.Int{}, map[int64]int64{}, map[int64]int64{}
		least, most := map[int64]api.Value{}, map[int64]api.Value{}
		over := false
		for range 1 + r.Intn(60) {
			k, v := r.Int63n(5), num(int64(r.Uint64())>>r.Intn(64))
			if r.Intn(4) == 0 {
				v = null
			}
			add(t, g, api.Row{num(k)}, slices.Repeat(api.Row{v}, 5))
			if alls[k]++; alls[k] == 1 {
				order = append(order, k)
				sums[k] = new(big.Int)
			}
			if v == null {
				continue
			}
			if counts[k]++; counts[k] == 1 || value.Compare(v, least[k]) < 0 {
				least[k] = v
			}
			if value.Compare(v, most[k]) > 0 {
				most[k] = v
			}
			sums[k].Add(sums[k], big.NewInt(v.N))
		}
		var keys, rows []api.Row
		for _, k := range order {
			over = over || !sums[k].IsInt64()
			sum := null
			if counts[k] > 0 {
				sum = num(sums[k].Int64())
			}
			keys, rows = append(keys, api.Row{num(k)}), append(rows, api.Row{num(alls[k]), num(counts[k]), sum, least[k], most[k]})
		}
		if over {
			if _, _, e := g.Answer(); e != api.ErrOver {
				t.Fatal(e)
			}
			continue
		}
		check(t, g, keys, rows)
	}
}

func TestNothingIsShared(t *testing.T) {
	aggs, key, vals := []int{api.AggMax}, api.Row{text("k")}, api.Row{num(1)}
	g := table(t, aggs...)
	add(t, g, key, vals)
	aggs[0], key[0], vals[0] = 99, num(9), num(9)
	check(t, g, []api.Row{{text("k")}}, []api.Row{{num(1)}})
	k, r, _ := g.Answer()
	k[0][0], r[0][0] = num(7), num(7)
	check(t, g, []api.Row{{text("k")}}, []api.Row{{num(1)}})
}

func TestOnce(t *testing.T) {
	rows := []api.Row{{num(1)}, {num(2)}, {num(1)}}
	l, e := group.Once(rows)
	if !reflect.DeepEqual(l, []api.Row{{num(1)}, {num(2)}}) || e != 0 || len(rows) != 3 {
		t.Error(l, e)
	}
	l[0][0] = num(9)
	if rows[0][0] != num(1) {
		t.Error("the result shares memory with the argument")
	}
	all := []api.Row{{null}, {}, {null, null}, {truth(0)}, {num(0)}, {text("")}, {text("a"), text("b")}, {text("ab"), text("")}, {text("a")}, {truth(1), num(1)}, {num(1), truth(1)}}
	l, e = group.Once(append(slices.Clone(all), all...))
	if len(l) != len(all) || e != 0 {
		t.Fatal(l, e)
	}
	for i := range l {
		if !slices.Equal(l[i], all[i]) {
			t.Error(i, l[i])
		}
	}
	if l, e := group.Once(nil); len(l) != 0 || e != 0 {
		t.Error(l, e)
	}
	for i, v := range wrong() {
		if l, e := group.Once([]api.Row{{num(1)}, {num(1), v}}); len(l) != 0 || e != api.ErrArg {
			t.Error(i, l, e)
		}
	}
}
