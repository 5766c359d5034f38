package ast

import (
	"bytes"
	"strconv"

	"heartwood/api"
)

// Text returns the string of a description.
func Text(d api.Desc) (string, api.Errno) {
	if !Valid(d) {
		return "", api.ErrArg
	}
	var w writer
	w.desc(d)
	return w.result()
}

// TextExpr returns the string of an expression.
func TextExpr(e api.Expr) (string, api.Errno) {
	if !ValidExpr(e) {
		return "", api.ErrArg
	}
	var w writer
	w.expr(e, levelOr)
	return w.result()
}

// writer has what is written so far. Once this is too long, further expressions are left out.
type writer struct{ b []byte }

func (w *writer) full() bool { return len(w.b) > api.MaxText }

func (w *writer) result() (string, api.Errno) {
	if w.full() {
		return "", api.ErrFull
	}
	return string(w.b), api.OK
}

func (w *writer) put(l ...string) {
	for _, s := range l {
		w.b = append(w.b, s...)
	}
}

func (w *writer) desc(d api.Desc) {
	w.put("desc ", d.Name, " {\n")
	for _, t := range d.Types {
		w.put("type ", t.Name, " { ")
		w.fields(t.Fields, "; ")
		if len(t.Fields) > 0 {
			w.put(" ")
		}
		w.put("}\n")
	}
	for _, v := range d.Globals {
		w.put("var ", v.Name, " ", v.Type, "\n")
	}
	for _, p := range d.Procs {
		w.proc(p)
	}
	for _, m := range d.Measures {
		w.line("measure "+m.Name+"("+m.Type+") nil "+strconv.Itoa(m.Nil), m.X)
	}
	for _, i := range d.Invariants {
		if i.Type == "" {
			w.line("invariant "+i.Name, i.X)
		} else {
			w.line("invariant "+i.Name+"("+i.Type+")", i.X)
		}
	}
	for _, p := range d.Potentials {
		if p.Type == "" {
			w.line("potential", p.X)
		} else {
			w.line("potential "+p.Type, p.X)
		}
	}
	for _, b := range d.Bounds {
		w.line("bound "+b.Proc, b.X)
	}
	w.put("}\n")
}

func (w *writer) line(head string, x api.Expr) {
	w.put(head, " = ")
	w.expr(x, levelOr)
	w.put("\n")
}

func (w *writer) fields(l []api.Field, between string) {
	for i, f := range l {
		if i > 0 {
			w.put(between)
		}
		w.put(f.Name, " ", f.Type)
	}
}

func (w *writer) proc(p api.Proc) {
	w.put("proc ", p.Name, "(")
	w.fields(p.Params, ", ")
	w.put(") ")
	if p.Result != "" {
		w.put(p.Result, " ")
	}
	w.put("{\n")
	for _, v := range p.Locals {
		w.put("\tlocal ", v.Name, " ", v.Type, ";\n")
	}
	w.stmts(p.Body, "\t")
	w.put("}\n")
}

func (w *writer) stmts(l []api.Stmt, tabs string) {
	for _, s := range l {
		if w.full() {
			return
		}
		w.put(tabs)
		w.stmt(s, tabs)
		w.put("\n")
	}
}

func (w *writer) stmt(s api.Stmt, tabs string) {
	switch s.Op {
	case api.SSet:
		w.put(s.S, " = ")
		w.expr(s.E[0], levelOr)
		w.put(";")
	case api.SPut:
		w.target(s.E[0])
		w.put(".", s.S, " = ")
		w.expr(s.E[1], levelOr)
		w.put(";")
	case api.SCall:
		w.expr(s.E[0], levelOr)
		w.put(";")
	case api.SReturn:
		w.put("return")
		if len(s.E) > 0 {
			w.put(" ")
			w.expr(s.E[0], levelOr)
		}
		w.put(";")
	case api.SWhile:
		w.put("while ")
		w.block(s.E[0], s.L, tabs)
	case api.SIf:
		w.put("if ")
		w.block(s.E[0], s.L, tabs)
		if len(s.Else) > 0 {
			w.put(" else {\n")
			w.stmts(s.Else, tabs+"\t")
			w.put(tabs, "}")
		}
	}
}

func (w *writer) block(e api.Expr, l []api.Stmt, tabs string) {
	w.expr(e, levelOr)
	w.put(" {\n")
	w.stmts(l, tabs+"\t")
	w.put(tabs, "}")
}

// target writes the node of an SPut. A statement that begins with if is an SIf, so that such an expression needs
// parentheses.
func (w *writer) target(e api.Expr) {
	var part writer
	part.expr(e, levelOther)
	if bytes.HasPrefix(part.b, []byte("if(")) {
		w.put("(", string(part.b), ")")
	} else {
		w.put(string(part.b))
	}
}
