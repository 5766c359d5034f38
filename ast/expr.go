package ast

import (
	"strconv"

	"heartwood/api"
)

// Levels of expressions: the greater one binds more tightly.
const (
	levelOr = 1 + iota
	levelAnd
	levelNot
	levelCompare
	levelSum
	levelProduct
	levelNeg
	levelOther
)

func levelOf(op int) int {
	switch op {
	case api.XOr:
		return levelOr
	case api.XAnd:
		return levelAnd
	case api.XNot:
		return levelNot
	case api.XEqual, api.XNotEqual, api.XLess, api.XLessEqual:
		return levelCompare
	case api.XAdd, api.XSub:
		return levelSum
	case api.XMul, api.XDiv, api.XMod:
		return levelProduct
	case api.XNeg:
		return levelNeg
	}
	return levelOther
}

// symbol is what stands between the parts of a binary operator, or, with a bracket, before the parts of other ones.
func symbol(op int) string {
	switch op {
	case api.XOr:
		return "or"
	case api.XAnd:
		return "and"
	case api.XEqual:
		return "=="
	case api.XNotEqual:
		return "!="
	case api.XLess:
		return "<"
	case api.XLessEqual:
		return "<="
	case api.XAdd:
		return "+"
	case api.XSub:
		return "-"
	case api.XMul:
		return "*"
	case api.XDiv:
		return "/"
	case api.XMod:
		return "%"
	case api.XIf:
		return "if"
	case api.XMax:
		return "max"
	case api.XMin:
		return "min"
	}
	return "log"
}

// expr writes an expression, in parentheses if its level is less than what is asked for.
func (w *writer) expr(e api.Expr, asked int) {
	level := levelOf(e.Op)
	if level < asked {
		w.put("(")
		w.bare(e, level)
		w.put(")")
	} else {
		w.bare(e, level)
	}
}

func (w *writer) bare(e api.Expr, level int) {
	switch e.Op {
	case api.XInt:
		w.put(strconv.Itoa(e.N))
	case api.XBool:
		w.put(strconv.FormatBool(e.N == 1))
	case api.XNil:
		w.put("nil")
	case api.XName:
		w.put(e.S)
	case api.XNew:
		w.put("new ", e.S)
	case api.XField:
		w.expr(e.L[0], levelOther)
		w.put(".", e.S)
	case api.XCall:
		w.parts(e.S, e.L)
	case api.XNeg:
		w.put("-")
		w.expr(e.L[0], levelNeg)
	case api.XNot:
		w.put("not ")
		w.expr(e.L[0], levelNot)
	case api.XIf, api.XMax, api.XMin, api.XLog:
		w.parts(symbol(e.Op), e.L)
	default:
		left, right := level, level+1
		if level == levelCompare {
			left = levelSum
		}
		w.expr(e.L[0], left)
		w.put(" ", symbol(e.Op), " ")
		w.expr(e.L[1], right)
	}
}

func (w *writer) parts(head string, l []api.Expr) {
	w.put(head, "(")
	for i, part := range l {
		if i > 0 {
			w.put(", ")
		}
		w.expr(part, levelOr)
	}
	w.put(")")
}
