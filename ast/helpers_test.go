package ast_test

import (
	"strings"

	"heartwood/api"
)

func x(op int, parts ...api.Expr) api.Expr { return api.Expr{Op: op, L: parts} }

func num(n int) api.Expr { return api.Expr{Op: api.XInt, N: n} }

func boolean(n int) api.Expr { return api.Expr{Op: api.XBool, N: n} }

func null() api.Expr { return api.Expr{Op: api.XNil} }

func name(s string) api.Expr { return api.Expr{Op: api.XName, S: s} }

func fresh(s string) api.Expr { return api.Expr{Op: api.XNew, S: s} }

func field(e api.Expr, s string) api.Expr { return api.Expr{Op: api.XField, S: s, L: []api.Expr{e}} }

func call(s string, parts ...api.Expr) api.Expr { return api.Expr{Op: api.XCall, S: s, L: parts} }

func set(s string, e api.Expr) api.Stmt { return api.Stmt{Op: api.SSet, S: s, E: []api.Expr{e}} }

func put(a api.Expr, s string, e api.Expr) api.Stmt {
	return api.Stmt{Op: api.SPut, S: s, E: []api.Expr{a, e}}
}

func ret(e ...api.Expr) api.Stmt { return api.Stmt{Op: api.SReturn, E: e} }

func do(e api.Expr) api.Stmt { return api.Stmt{Op: api.SCall, E: []api.Expr{e}} }

func while(e api.Expr, l ...api.Stmt) api.Stmt {
	return api.Stmt{Op: api.SWhile, E: []api.Expr{e}, L: l}
}

func when(e api.Expr, l, other []api.Stmt) api.Stmt {
	return api.Stmt{Op: api.SIf, E: []api.Expr{e}, L: l, Else: other}
}

func stmts(l ...api.Stmt) []api.Stmt { return l }

func long() string { return strings.Repeat("n", api.MaxName) }

func tower(n int, e api.Expr) api.Expr {
	for range n {
		e = x(api.XNeg, e)
	}
	return e
}

// bush returns an expression with n nodes, an odd number, and a small depth.
func bush(n int, leaf api.Expr) api.Expr {
	if n == 1 {
		return leaf
	}
	left := (n - 1) / 2
	if left%2 == 0 {
		left--
	}
	return x(api.XAdd, bush(left, leaf), bush(n-1-left, leaf))
}

func binary() []int {
	return []int{api.XAdd, api.XSub, api.XMul, api.XDiv, api.XMod, api.XEqual, api.XNotEqual, api.XLess, api.XLessEqual, api.XAnd, api.XOr, api.XMax, api.XMin}
}

// goodExprs has valid expressions of all kinds.
func goodExprs() []api.Expr {
	l := []api.Expr{
		num(0), num(7), num(api.MaxInt), boolean(0), boolean(1), null(), name("a"), name("this"), name(long()), fresh("T"), field(name("a"), "f"), field(null(), long()),
		call("p"), call("p", name("a")), call("p", num(1), num(2), num(3), num(4), num(5), num(6)), x(api.XNeg, num(1)), x(api.XNot, name("a")), x(api.XLog, name("a")),
		x(api.XIf, name("a"), num(1), null()), tower(api.MaxNest-1, num(1)), bush(api.MaxSize-1, num(1)), x(api.XNeg, bush(api.MaxSize-1, num(1))),
	}
	for _, op := range binary() {
		l = append(l, x(op, name("a"), num(2)))
	}
	return l
}

// badExprs has expressions that are not valid, each for one reason.
func badExprs() []api.Expr {
	a := name("a")
	circle := make([]api.Expr, 2)
	circle[0], circle[1] = x(api.XAdd, circle...), x(api.XAdd, circle...)
	shared := num(1)
	for range 40 {
		l := []api.Expr{shared, shared}
		shared = x(api.XAdd, l...)
	}
	l := []api.Expr{
		{}, {Op: -1}, {Op: api.XLog + 1}, {Op: 100}, x(100, a, a), x(0, a, a), x(-1, a, a), x(api.XLog+1, a, a), num(-1), num(api.MaxInt + 1), {Op: api.XInt, S: "a"}, x(api.XInt, a), boolean(2), boolean(-1), {Op: api.XBool, S: "a"}, x(api.XBool, a),
		{Op: api.XNil, N: 1}, {Op: api.XNil, S: "a"}, x(api.XNil, a), name(""), name("if"), name("1"), name(long() + "n"), {Op: api.XName, S: "a", N: 1}, {Op: api.XName, S: "a", L: []api.Expr{a}},
		fresh(""), fresh("this"), fresh("int"), {Op: api.XNew, S: "T", N: 1}, {Op: api.XNew, S: "T", L: []api.Expr{a}}, field(a, ""), field(a, "this"), {Op: api.XField, S: "f"}, {Op: api.XField, S: "f", L: []api.Expr{a, a}}, {Op: api.XField, S: "f", N: 1, L: []api.Expr{a}},
		call(""), call("this"), call("max"), {Op: api.XCall, S: "p", N: 1}, call("p", a, a, a, a, a, a, a), x(api.XNeg), x(api.XNeg, a, a), x(api.XNot), x(api.XLog, a, a), x(api.XIf, a, a), x(api.XIf, a, a, a, a),
		{Op: api.XNeg, N: 1, L: []api.Expr{a}}, {Op: api.XNeg, S: "a", L: []api.Expr{a}}, {Op: api.XIf, S: "a", L: []api.Expr{a, a, a}}, tower(api.MaxNest, num(1)), bush(api.MaxSize+1, num(1)), x(api.XAdd, circle...), shared,
		x(api.XAdd, a, name("if")), field(field(num(-1), "f"), "g"), call("p", a, x(api.XNot)),
	}
	for _, op := range binary() {
		l = append(l, x(op), x(op, a), x(op, a, a, a), api.Expr{Op: op, N: 1, L: []api.Expr{a, a}}, api.Expr{Op: op, S: "s", L: []api.Expr{a, a}})
	}
	return l
}

// list is a description of a list with all kinds of parts, and listText its string.
func list() api.Desc {
	this := name("this")
	return api.Desc{
		Name:    "list",
		Types:   []api.NodeType{{Name: "N", Fields: []api.Field{{Name: "k", Type: "int"}, {Name: "n", Type: "N"}}}, {Name: "E"}},
		Globals: []api.Field{{Name: "r", Type: "N"}, {Name: "on", Type: "bool"}},
		Procs: []api.Proc{
			{Name: "push", Params: []api.Field{{Name: "k", Type: "int"}, {Name: "b", Type: "bool"}}, Result: "int", Locals: []api.Field{{Name: "x", Type: "N"}, {Name: "i", Type: "int"}}, Body: []api.Stmt{
				set("x", fresh("N")), put(name("x"), "k", name("k")),
				while(x(api.XAnd, x(api.XNotEqual, name("x"), null()), name("b")), when(name("b"), stmts(ret(num(1))), stmts(do(call("clear")), while(boolean(1)))), when(name("b"), nil, nil)),
				ret(x(api.XNeg, num(5))),
			}},
			{Name: "clear", Body: []api.Stmt{set("r", null()), ret()}},
			{Name: "find", Params: []api.Field{{Name: "k", Type: "int"}}, Result: "N"},
		},
		Measures:   []api.Measure{{Name: "length", Type: "N", X: x(api.XAdd, num(1), call("length", field(this, "n")))}, {Name: "last", Type: "N", Nil: -5, X: field(this, "k")}},
		Invariants: []api.Invariant{{Name: "sorted", Type: "N", X: x(api.XOr, x(api.XEqual, field(this, "n"), null()), x(api.XLess, field(this, "k"), field(field(this, "n"), "k")))}, {Name: "some", X: name("on")}},
		Potentials: []api.Potential{{Type: "N", X: num(2)}, {X: x(api.XLog, call("length", name("r")))}},
		Bounds:     []api.Bound{{Proc: "push", X: x(api.XMul, num(2), call("length", name("r")))}},
	}
}

const listText = `desc list {
type N { k int; n N }
type E { }
var r N
var on bool
proc push(k int, b bool) int {
	local x N;
	local i int;
	x = new N;
	x.k = k;
	while x != nil and b {
		if b {
			return 1;
		} else {
			clear();
			while true {
			}
		}
		if b {
		}
	}
	return -5;
}
proc clear() {
	r = nil;
	return;
}
proc find(k int) N {
}
measure length(N) nil 0 = 1 + length(this.n)
measure last(N) nil -5 = this.k
invariant sorted(N) = this.n == nil or this.k < this.n.k
invariant some = on
potential N = 2
potential = log(length(r))
bound push = 2 * length(r)
}
`

// changes are functions that change a part of a description, all of them so that it stays valid.
func changes() []func(d *api.Desc) {
	return []func(d *api.Desc){
		func(d *api.Desc) { d.Name = "other" },
		func(d *api.Desc) { d.Types = d.Types[:1] },
		func(d *api.Desc) { d.Types[0].Name = "M" },
		func(d *api.Desc) { d.Types[0].Fields = d.Types[0].Fields[:1] },
		func(d *api.Desc) { d.Types[0].Fields[1].Name = "m" },
		func(d *api.Desc) { d.Types[0].Fields[0].Type = "bool" },
		func(d *api.Desc) { d.Globals[0].Name = "s" },
		func(d *api.Desc) { d.Globals[0].Type = "int" },
		func(d *api.Desc) { d.Globals = nil },
		func(d *api.Desc) { d.Procs = d.Procs[:2] },
		func(d *api.Desc) { d.Procs[0].Name = "pop" },
		func(d *api.Desc) { d.Procs[0].Result = "" },
		func(d *api.Desc) { d.Procs[0].Params[1].Name = "c" },
		func(d *api.Desc) { d.Procs[0].Locals[0].Type = "int" },
		func(d *api.Desc) { d.Procs[0].Locals = d.Procs[0].Locals[1:] },
		func(d *api.Desc) { d.Procs[0].Body = d.Procs[0].Body[:3] },
		func(d *api.Desc) { d.Procs[0].Body[0].S = "y" },
		func(d *api.Desc) { d.Procs[0].Body[1].E[1] = num(3) },
		func(d *api.Desc) { d.Procs[0].Body[2].L[0].Else[0].E[0].S = "wipe" },
		func(d *api.Desc) { d.Procs[0].Body[2].L[0].Else = nil },
		func(d *api.Desc) { d.Procs[0].Body[2].L[0].L[0] = ret() },
		func(d *api.Desc) { d.Procs[0].Body[2].E[0].Op = api.XOr },
		func(d *api.Desc) { d.Procs[0].Body[2].E[0].L[0].L[1] = name("k") },
		func(d *api.Desc) { d.Procs[0].Body[3].E[0].L[0].N = 6 },
		func(d *api.Desc) { d.Measures[0].Name = "size" },
		func(d *api.Desc) { d.Measures[0].Type = "E" },
		func(d *api.Desc) { d.Measures[0].Nil = 1 },
		func(d *api.Desc) { d.Measures[0].X.L[0].N = 2 },
		func(d *api.Desc) { d.Measures = d.Measures[:1] },
		func(d *api.Desc) { d.Invariants[0].Name = "ordered" },
		func(d *api.Desc) { d.Invariants[0].Type = "" },
		func(d *api.Desc) { d.Invariants[1].Type = "E" },
		func(d *api.Desc) { d.Invariants[0].X.Op = api.XAnd },
		func(d *api.Desc) { d.Invariants = nil },
		func(d *api.Desc) { d.Potentials[0].Type = "" },
		func(d *api.Desc) { d.Potentials[1].X = num(3) },
		func(d *api.Desc) { d.Potentials = d.Potentials[1:] },
		func(d *api.Desc) { d.Bounds[0].Proc = "clear" },
		func(d *api.Desc) { d.Bounds[0].X.L[0].N = 3 },
		func(d *api.Desc) { d.Bounds = nil },
	}
}
