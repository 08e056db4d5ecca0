package query

import (
	"strconv"
	"strings"

	"stackyard/api"
	"stackyard/value"
)

// textOf is the canonical form of a query that is valid, but for its length.
func textOf(q api.Query) string {
	s := "select " + join(q.Items, itemText)
	for _, x := range q.Where {
		s += " where " + exprText(x)
	}
	if len(q.Group) > 0 {
		s += " group by " + join(q.Group, exprText)
	}
	if len(q.Order) > 0 {
		s += " order by " + join(q.Order, func(k api.Key) string { return keyText(k, q.Items) })
	}
	if q.Limit >= 0 {
		s += " limit " + strconv.Itoa(q.Limit)
	}
	return s
}

func join[T any](l []T, show func(T) string) string {
	var parts []string
	for _, x := range l {
		parts = append(parts, show(x))
	}
	return strings.Join(parts, ", ")
}

func itemText(item api.Item) string { return gatherText(item) + " as " + item.Name }

func gatherText(item api.Item) string {
	if item.Agg == api.AggAll {
		return "count(*)"
	}
	for _, g := range gathers {
		if g.agg == item.Agg {
			return g.word + "(" + exprText(item.X) + ")"
		}
	}
	return exprText(item.X)
}

func keyText(k api.Key, items []api.Item) string {
	if k.Desc {
		return items[k.Item].Name + " desc"
	}
	return items[k.Item].Name
}

func exprText(x api.Expr) string {
	var b strings.Builder
	show(&b, x)
	return b.String()
}

func show(b *strings.Builder, x api.Expr) {
	switch x.Op {
	case api.ECol:
		b.WriteString(x.Name)
	case api.EConst:
		s, _ := value.Show(x.V)
		b.WriteString(s)
	case api.ELen:
		b.WriteString("len")
		showEnclosed(b, x.Kids[0])
	case api.ENot:
		b.WriteString("not ")
		showChild(b, x.Kids[0], levelNot)
	case api.EIsNull:
		showChild(b, x.Kids[0], levelRel)
		b.WriteString(" is null")
	case api.ENeg:
		b.WriteByte('-')
		showNegated(b, x.Kids[0])
	default:
		showOperator(b, x)
	}
}

func showEnclosed(b *strings.Builder, x api.Expr) {
	b.WriteByte('(')
	show(b, x)
	b.WriteByte(')')
}

// showChild encloses a child whose level is above the one that its place asks for.
func showChild(b *strings.Builder, x api.Expr, level int) {
	if levelOf(x) < level {
		showEnclosed(b, x)
		return
	}
	show(b, x)
}

// showNegated encloses a number, since it would be read as a negative constant.
func showNegated(b *strings.Builder, x api.Expr) {
	if x.Op == api.EConst && x.V.Kind == api.KInt {
		showEnclosed(b, x)
		return
	}
	showChild(b, x, levelMinus)
}

func showOperator(b *strings.Builder, x api.Expr) {
	for _, o := range operators {
		if o.op != x.Op {
			continue
		}
		left := o.level
		if left == levelRel {
			left = levelSum
		}
		showChild(b, x.Kids[0], left)
		b.WriteString(" " + o.word + " ")
		showChild(b, x.Kids[1], o.level+1)
	}
}

func levelOf(x api.Expr) int {
	switch x.Op {
	case api.ENot:
		return levelNot
	case api.EIsNull:
		return levelIs
	case api.ENeg:
		return levelMinus
	}
	for _, o := range operators {
		if o.op == x.Op {
			return o.level
		}
	}
	// A negative constant counts as a Minus; but no place asks for more than that.
	return levelAtom
}
