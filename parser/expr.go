package parser

import "heartwood/api"

// Levels of expressions: the greater one binds more tightly.
const (
	levelOr = 1 + iota
	levelAnd
	levelNot
	levelCompare
	levelSum
	levelProduct
	levelNeg
)

// operator is an operator of two parts.
type operator struct {
	text      string
	level, op int
}

func operators() [11]operator {
	return [...]operator{
		{"or", levelOr, api.XOr}, {"and", levelAnd, api.XAnd},
		{"==", levelCompare, api.XEqual}, {"!=", levelCompare, api.XNotEqual}, {"<", levelCompare, api.XLess}, {"<=", levelCompare, api.XLessEqual},
		{"+", levelSum, api.XAdd}, {"-", levelSum, api.XSub},
		{"*", levelProduct, api.XMul}, {"/", levelProduct, api.XDiv}, {"%", levelProduct, api.XMod},
	}
}

func (p *parser) expr() api.Expr { return p.level(levelOr) }

// level reads an expression of at least a level.
func (p *parser) level(level int) api.Expr {
	switch {
	case level == levelNot && p.take("not"):
		return node(api.XNot, p.level(levelNot))
	case level == levelNeg && p.take("-"):
		return node(api.XNeg, p.level(levelNeg))
	case level == levelNeg:
		return p.postfix()
	}
	e := p.level(level + 1)
	for {
		op, found := p.operator(level)
		if !found {
			return e
		}
		e = node(op, e, p.level(level+1))
		// A comparison is no part of another one.
		if level == levelCompare {
			return e
		}
	}
}

// operator reads an operator of a level, if it is the next token.
func (p *parser) operator(level int) (int, bool) {
	for _, o := range operators() {
		if o.level == level && p.take(o.text) {
			return o.op, true
		}
	}
	return 0, false
}

func node(op int, parts ...api.Expr) api.Expr { return api.Expr{Op: op, L: parts} }

func (p *parser) postfix() api.Expr {
	e := p.primary()
	for p.take(".") {
		e = api.Expr{Op: api.XField, S: p.name(), L: []api.Expr{e}}
	}
	return e
}

func (p *parser) primary() api.Expr {
	switch {
	case p.take("true"):
		return api.Expr{Op: api.XBool, N: 1}
	case p.take("false"):
		return api.Expr{Op: api.XBool}
	case p.take("nil"):
		return api.Expr{Op: api.XNil}
	case p.take("this"):
		return api.Expr{Op: api.XName, S: "this"}
	case p.take("new"):
		return api.Expr{Op: api.XNew, S: p.name()}
	case p.take("if"):
		return p.function(api.XIf, 3)
	case p.take("max"):
		return p.function(api.XMax, 2)
	case p.take("min"):
		return p.function(api.XMin, 2)
	case p.take("log"):
		return p.function(api.XLog, 1)
	case p.take("("):
		e := p.expr()
		p.want(")")
		return e
	case p.tokens[p.at].Kind == api.TokInt:
		return api.Expr{Op: api.XInt, N: p.of(api.TokInt).N}
	}
	s := p.name()
	if p.take("(") {
		return api.Expr{Op: api.XCall, S: s, L: list(p, ",", ")", p.expr)}
	}
	return api.Expr{Op: api.XName, S: s}
}

// function reads a number of parts in parentheses.
func (p *parser) function(op, parts int) api.Expr {
	p.want("(")
	e := node(op, p.expr())
	for range parts - 1 {
		p.want(",")
		e.L = append(e.L, p.expr())
	}
	p.want(")")
	return e
}
