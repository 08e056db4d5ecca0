package query

import (
	"errors"
	"strconv"

	"stackyard/api"
	"stackyard/value"
)

var errSyntax = errors.New("a token that no query has here")

// parser reads tokens; wrong tells whether some of them mean what no valid query has.
type parser struct {
	tokens []token
	next   int
	wrong  bool
}

// query reads all tokens, or stops ahead of the first that no query has there.
func (p *parser) query() (q api.Query, ok bool) {
	defer func() {
		if recover() != nil {
			q, ok = api.Query{}, false
		}
	}()
	q.Limit = -1
	p.want("select")
	p.list(func() { q.Items = append(q.Items, p.item()) })
	if p.has("where") {
		q.Where = []api.Expr{p.or()}
	}
	if p.has("group") {
		p.want("by")
		p.list(func() { q.Group = append(q.Group, p.or()) })
	}
	if p.has("order") {
		p.want("by")
		p.list(func() { q.Order = append(q.Order, p.key(q.Items)) })
	}
	if p.has("limit") {
		q.Limit = int(p.numberOf("", p.take(number)))
	}
	p.take(end)
	return q, true
}

func (p *parser) now() token { return p.tokens[p.next] }

// has goes beyond the next token if it is that word or symbol, and tells whether it is.
func (p *parser) has(s string) bool {
	if p.now().text != s {
		return false
	}
	p.next++
	return true
}

func (p *parser) want(s string) {
	if !p.has(s) {
		panic(errSyntax)
	}
}

// take goes beyond the next token, which must be of a kind.
func (p *parser) take(kind int) string {
	t := p.now()
	if t.kind != kind {
		panic(errSyntax)
	}
	if kind != end {
		p.next++
	}
	return t.text
}

func (p *parser) name() string {
	if isKeyword(p.now().text) {
		panic(errSyntax)
	}
	return p.take(word)
}

// list reads what is separated by commas.
func (p *parser) list(read func()) {
	read()
	for p.has(",") {
		read()
	}
}

func (p *parser) item() api.Item {
	item := p.gather()
	p.want("as")
	item.Name = p.name()
	return item
}

func (p *parser) gather() api.Item {
	for _, g := range gathers {
		if !p.has(g.word) {
			continue
		}
		p.want("(")
		item := api.Item{Agg: g.agg}
		if g.agg == api.AggCount && p.has("*") {
			item.Agg = api.AggAll
		} else {
			item.X = p.or()
		}
		p.want(")")
		return item
	}
	return api.Item{X: p.or()}
}

// key reads a key; the index of an item that does not exist makes the query wrong.
func (p *parser) key(items []api.Item) api.Key {
	return api.Key{Item: findItem(items, p.name()), Desc: p.has("desc")}
}

// numberOf is the number of digits behind a sign.
func (p *parser) numberOf(sign, digits string) int64 {
	n, err := strconv.ParseInt(sign+digits, 10, 64)
	if err != nil {
		p.wrong = true
	}
	return n
}

func (p *parser) or() api.Expr { return p.chain(levelOr, p.and) }

func (p *parser) and() api.Expr { return p.chain(levelAnd, p.not) }

func (p *parser) not() api.Expr {
	if p.has("not") {
		return node(api.ENot, p.not())
	}
	x := p.rel()
	if p.has("is") {
		p.want("null")
		return node(api.EIsNull, x)
	}
	return x
}

func (p *parser) rel() api.Expr {
	x := p.sum()
	if op := p.operator(levelRel); op != 0 {
		return node(op, x, p.sum())
	}
	return x
}

func (p *parser) sum() api.Expr { return p.chain(levelSum, p.prod) }

func (p *parser) prod() api.Expr { return p.chain(levelProd, p.minus) }

func (p *parser) minus() api.Expr {
	if !p.has("-") {
		return p.atom()
	}
	if p.now().kind == number {
		return constant(api.KInt, p.numberOf("-", p.take(number)))
	}
	return node(api.ENeg, p.minus())
}

func (p *parser) atom() api.Expr {
	switch t := p.now(); {
	case t.kind == number:
		return constant(api.KInt, p.numberOf("", p.take(number)))
	case t.kind == text:
		v, e := value.Parse(p.take(text))
		p.wrong = p.wrong || e != api.OK
		return api.Expr{Op: api.EConst, V: v}
	case p.has("true"):
		return constant(api.KBool, 1)
	case p.has("false"):
		return constant(api.KBool, 0)
	case p.has("null"):
		return constant(api.KNull, 0)
	case p.has("len"):
		p.want("(")
		return node(api.ELen, p.enclosed())
	case p.has("("):
		return p.enclosed()
	}
	return api.Expr{Op: api.ECol, Name: p.name()}
}

// enclosed reads what stands behind an opening parenthesis, and the closing one.
func (p *parser) enclosed() api.Expr {
	x := p.or()
	p.want(")")
	return x
}

// chain reads operands with operators of one level between them.
func (p *parser) chain(level int, operand func() api.Expr) api.Expr {
	x := operand()
read:
	for {
		op := p.operator(level)
		if op == 0 {
			break read
		}
		x = node(op, x, operand())
	}
	return x
}

// operator goes beyond an operator of a level, and tells which one; 0 if there is none.
func (p *parser) operator(level int) int {
	for _, o := range operators {
		if o.level == level && p.has(o.word) {
			return o.op
		}
	}
	return 0
}

func node(op int, kids ...api.Expr) api.Expr {
	return api.Expr{Op: op, Kids: kids}
}

func constant(kind int, n int64) api.Expr {
	return api.Expr{Op: api.EConst, V: api.Value{Kind: kind, N: n}}
}
