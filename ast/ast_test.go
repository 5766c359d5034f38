package ast_test

import (
	"slices"
	"testing"

	"heartwood/api"
	"heartwood/ast"
)

// P9.1

func TestValidExpr(t *testing.T) {
	for i, e := range goodExprs() {
		if !ast.ValidExpr(e) {
			t.Error(i, e)
		}
		for k, part := range e.L {
			if !ast.ValidExpr(part) || ast.Size(part) >= ast.Size(e) {
				t.Error(i, k)
			}
		}
	}
	for i, e := range badExprs() {
		if ast.ValidExpr(e) || ast.Size(e) != 0 {
			t.Error(i)
		}
	}
	for _, c := range []struct {
		e    api.Expr
		want int
	}{{num(1), 1}, {field(name("a"), "f"), 2}, {call("p"), 1}, {x(api.XIf, name("a"), x(api.XAdd, num(1), num(2)), num(3)), 6}, {bush(999, num(1)), 999}, {x(api.XNeg, bush(999, num(1))), api.MaxSize}, {tower(59, num(1)), 60}} {
		if n := ast.Size(c.e); n != c.want {
			t.Error(c.e, n)
		}
	}
}

func inProc(l ...api.Stmt) api.Desc {
	return api.Desc{Name: "d", Procs: []api.Proc{{Name: "p", Body: l}}}
}

func wantValid(t *testing.T, d api.Desc, want bool) {
	t.Helper()
	if ast.Valid(d) != want {
		t.Errorf("Valid(%.300v) = %v", d, !want)
	}
}

func TestValidStatements(t *testing.T) {
	a := name("a")
	for _, s := range []api.Stmt{set("v", a), put(a, "f", a), ret(), ret(a), do(call("p", a)), while(a), while(a, ret()), when(a, nil, nil), when(a, stmts(ret()), nil), when(a, nil, stmts(ret())), {Op: api.SReturn, E: []api.Expr{}, L: []api.Stmt{}, Else: []api.Stmt{}}} {
		wantValid(t, inProc(s), true)
		wantValid(t, inProc(when(a, stmts(while(a, s)), stmts(s))), true)
	}
	for _, s := range []api.Stmt{
		{}, {Op: 7}, {Op: -1}, set("", a), set("this", a), set("if", a), {Op: api.SSet, S: "v"}, {Op: api.SSet, S: "v", E: []api.Expr{a, a}}, {Op: api.SSet, S: "v", E: []api.Expr{a}, L: stmts(ret())}, {Op: api.SSet, S: "v", E: []api.Expr{a}, Else: stmts(ret())},
		put(a, "", a), put(a, "this", a), {Op: api.SPut, S: "f", E: []api.Expr{a}}, {Op: api.SPut, S: "f", E: []api.Expr{a, a, a}}, {Op: api.SPut, S: "f", E: []api.Expr{a, a}, L: stmts(ret())}, {Op: api.SPut, S: "f", E: []api.Expr{a, a}, Else: stmts(ret())},
		{Op: api.SIf}, {Op: api.SIf, E: []api.Expr{a, a}}, {Op: api.SIf, S: "s", E: []api.Expr{a}}, {Op: api.SWhile}, {Op: api.SWhile, S: "s", E: []api.Expr{a}}, {Op: api.SWhile, E: []api.Expr{a}, Else: stmts(ret())}, {Op: api.SWhile, E: []api.Expr{a, a}},
		ret(a, a), {Op: api.SReturn, S: "s"}, {Op: api.SReturn, L: stmts(ret())}, {Op: api.SReturn, Else: stmts(ret())}, do(a), {Op: api.SCall}, {Op: api.SCall, E: []api.Expr{call("p"), call("p")}}, {Op: api.SCall, S: "s", E: []api.Expr{call("p")}}, {Op: api.SCall, E: []api.Expr{call("p")}, L: stmts(ret())}, {Op: api.SCall, E: []api.Expr{call("p")}, Else: stmts(ret())},
		set("v", num(-1)), put(num(-1), "f", a), put(a, "f", num(-1)), while(num(-1)), when(num(-1), nil, nil), ret(num(-1)), do(call("p", num(-1))),
	} {
		wantValid(t, inProc(s), false)
		wantValid(t, inProc(ret(), when(a, nil, stmts(while(a, ret(), s)))), false)
		if l, err := ast.Calls(inProc(s).Procs[0]); err != api.ErrArg || len(l) != 0 {
			t.Error(s, l, err)
		}
	}
}

func nested(depth int) api.Stmt {
	s := ret()
	for i := range depth - 1 {
		if i%2 == 0 {
			s = while(name("a"), s)
		} else {
			s = when(name("a"), nil, stmts(s))
		}
	}
	return s
}

func TestStatementLimits(t *testing.T) {
	wantValid(t, inProc(nested(api.MaxNest)), true)
	wantValid(t, inProc(nested(api.MaxNest+1)), false)
	wantValid(t, inProc(nested(10000)), false)
	wantValid(t, inProc(slices.Repeat(stmts(ret()), api.MaxStmts)...), true)
	wantValid(t, inProc(slices.Repeat(stmts(ret()), api.MaxStmts+1)...), false)
	half := slices.Repeat(stmts(ret()), 99)
	wantValid(t, inProc(when(name("a"), half, half), ret()), true)
	wantValid(t, inProc(when(name("a"), half, half), ret(), ret()), false)
	circle := make([]api.Stmt, 2)
	circle[0], circle[1] = while(name("a"), circle...), while(name("a"), circle...)
	wantValid(t, inProc(circle...), false)
	// Each procedure counts for itself.
	d := inProc(slices.Repeat(stmts(ret()), api.MaxStmts)...)
	d.Procs = append(d.Procs, d.Procs[0])
	wantValid(t, d, true)
}

func TestValid(t *testing.T) {
	wantValid(t, list(), true)
	wantValid(t, api.Desc{Name: "d"}, true)
	wantValid(t, api.Desc{}, false)
	for i, change := range changes() {
		d := list()
		change(&d)
		if !ast.Valid(d) {
			t.Error(i)
		}
	}
	for _, s := range []string{"", "if", "this", "1", "a b", long() + "n"} {
		for i, change := range []func(d *api.Desc){
			func(d *api.Desc) { d.Name = s }, func(d *api.Desc) { d.Types[1].Name = s }, func(d *api.Desc) { d.Types[0].Fields[1].Name = s }, func(d *api.Desc) { d.Types[0].Fields[1].Type = s },
			func(d *api.Desc) { d.Globals[1].Name = s }, func(d *api.Desc) { d.Globals[1].Type = s }, func(d *api.Desc) { d.Procs[2].Name = s }, func(d *api.Desc) { d.Procs[0].Params[1].Name = s }, func(d *api.Desc) { d.Procs[0].Params[1].Type = s },
			func(d *api.Desc) { d.Procs[0].Locals[1].Name = s }, func(d *api.Desc) { d.Procs[0].Locals[1].Type = s }, func(d *api.Desc) { d.Measures[1].Name = s }, func(d *api.Desc) { d.Measures[1].Type = s },
			func(d *api.Desc) { d.Invariants[1].Name = s }, func(d *api.Desc) { d.Bounds[0].Proc = s },
		} {
			d := list()
			change(&d)
			if ast.Valid(d) {
				t.Error(i, s)
			}
		}
		d := list()
		d.Procs[0].Result = s
		wantValid(t, d, s == "")
		d = list()
		d.Invariants[0].Type = s
		wantValid(t, d, s == "")
		d = list()
		d.Potentials[0].Type = s
		wantValid(t, d, s == "")
	}
	for i, change := range []func(d *api.Desc){
		func(d *api.Desc) { d.Measures[0].Type = "int" }, func(d *api.Desc) { d.Invariants[0].Type = "int" }, func(d *api.Desc) { d.Potentials[0].Type = "bool" }, func(d *api.Desc) { d.Measures[0].Nil = api.MaxInt + 1 }, func(d *api.Desc) { d.Measures[0].Nil = -api.MaxInt - 1 },
		func(d *api.Desc) { d.Measures[0].X = num(-1) }, func(d *api.Desc) { d.Invariants[1].X = num(-1) }, func(d *api.Desc) { d.Potentials[1].X = num(-1) }, func(d *api.Desc) { d.Bounds[0].X = num(-1) }, func(d *api.Desc) { d.Procs[1].Body = stmts(ret(), api.Stmt{}) },
	} {
		d := list()
		change(&d)
		if ast.Valid(d) {
			t.Error(i)
		}
	}
	d := list()
	d.Measures[0].Nil, d.Measures[1].Nil = api.MaxInt, -api.MaxInt
	wantValid(t, d, true)
}

func TestListLimits(t *testing.T) {
	f := api.Field{Name: "a", Type: "int"}
	check := func(limit int, grow func(d *api.Desc, n int)) {
		t.Helper()
		d := list()
		grow(&d, limit)
		wantValid(t, d, true)
		d = list()
		grow(&d, limit+1)
		wantValid(t, d, false)
	}
	check(api.MaxTypes, func(d *api.Desc, n int) { d.Types = slices.Repeat(d.Types[1:], n) })
	check(api.MaxFields, func(d *api.Desc, n int) { d.Types[1].Fields = slices.Repeat([]api.Field{f}, n) })
	check(api.MaxGlobals, func(d *api.Desc, n int) { d.Globals = slices.Repeat([]api.Field{f}, n) })
	check(api.MaxProcs, func(d *api.Desc, n int) { d.Procs = slices.Repeat(d.Procs[2:], n) })
	check(api.MaxParams, func(d *api.Desc, n int) { d.Procs[2].Params = slices.Repeat([]api.Field{f}, n) })
	check(api.MaxLocals, func(d *api.Desc, n int) { d.Procs[2].Locals = slices.Repeat([]api.Field{f}, n) })
	check(api.MaxMeasures, func(d *api.Desc, n int) { d.Measures = slices.Repeat(d.Measures[:1], n) })
	check(api.MaxMeasures, func(d *api.Desc, n int) { d.Invariants = slices.Repeat(d.Invariants[:1], n) })
	check(api.MaxMeasures, func(d *api.Desc, n int) { d.Potentials = slices.Repeat(d.Potentials[:1], n) })
	check(api.MaxMeasures, func(d *api.Desc, n int) { d.Bounds = slices.Repeat(d.Bounds[:1], n) })
}

// P9.2

func TestSame(t *testing.T) {
	d := list()
	if !ast.Same(d, list()) || !ast.Same(api.Desc{}, api.Desc{}) {
		t.Error("the same")
	}
	for i, change := range changes() {
		d := list()
		change(&d)
		if ast.Same(d, list()) || ast.Same(list(), d) || !ast.Same(d, d) {
			t.Error(i)
		}
	}
	e := list()
	e.Types[1].Fields, e.Procs[1].Params, e.Procs[1].Locals, e.Procs[2].Body = []api.Field{}, []api.Field{}, []api.Field{}, []api.Stmt{}
	e.Procs[1].Body[1].E, e.Procs[1].Body[1].L, e.Procs[1].Body[1].Else = []api.Expr{}, []api.Stmt{}, []api.Stmt{}
	e.Procs[1].Body[0].E[0].L = []api.Expr{}
	if !ast.Same(d, e) || !ast.Same(api.Desc{}, api.Desc{Types: []api.NodeType{}, Globals: []api.Field{}, Procs: []api.Proc{}, Measures: []api.Measure{}, Invariants: []api.Invariant{}, Potentials: []api.Potential{}, Bounds: []api.Bound{}}) {
		t.Error("nil and empty")
	}
}

func TestSameExpr(t *testing.T) {
	for i, a := range goodExprs() {
		if !ast.SameExpr(a, a) {
			t.Error(i)
		}
	}
	small := []api.Expr{{}, num(0), num(1), {Op: api.XInt, S: "a"}, name("a"), name("b"), x(api.XNeg, num(0)), x(api.XNeg, num(1)), x(api.XNot, num(0)), x(api.XAdd, num(0), num(1)), x(api.XAdd, num(1), num(0)), x(api.XAdd, num(0)), x(api.XAdd), x(api.XAdd, num(0), num(1), num(2)), field(name("a"), "f"), field(name("a"), "g"), field(name("b"), "f"), call("f", name("a"))}
	for i, a := range small {
		for k, b := range small {
			if ast.SameExpr(a, b) != (i == k) {
				t.Error(a, b)
			}
		}
	}
	if !ast.SameExpr(api.Expr{Op: api.XNil, L: []api.Expr{}}, null()) {
		t.Error("nil and empty")
	}
}

// P9.4

func TestProc(t *testing.T) {
	d := list()
	p, err := ast.Proc(d, "push")
	if err != api.OK || p.Name != "push" || !ast.Same(api.Desc{Procs: []api.Proc{p}}, api.Desc{Procs: d.Procs[:1]}) {
		t.Error(p, err)
	}
	p.Params[0].Name, p.Locals[0].Name, p.Body[0].S, p.Body[1].E[0].S, p.Body[2].L[0].L[0].E[0].N, p.Body[2].L[0].Else[0].E[0].S, p.Body[2].E[0].L[0].L[0].S = "z", "z", "z", "z", 9, "z", "z"
	p.Body[2].L[1] = ret()
	if !ast.Same(d, list()) {
		t.Error("the result shares memory with the argument")
	}
	d.Procs = append(d.Procs, api.Proc{Name: "clear", Result: "int"})
	if p, err := ast.Proc(d, "clear"); err != api.OK || p.Result != "" {
		t.Error(p, err)
	}
	for _, s := range []string{"pop", "", "length", "Push"} {
		if p, err := ast.Proc(d, s); err != api.ErrNone || p.Name != "" || len(p.Body) != 0 {
			t.Error(p, err)
		}
	}
	d.Name = ""
	for _, s := range []string{"push", "pop"} {
		if p, err := ast.Proc(d, s); err != api.ErrArg || p.Name != "" {
			t.Error(p, err)
		}
	}
}

func TestIndices(t *testing.T) {
	d := list()
	d.Types = append(d.Types, d.Types...)
	d.Types[0].Fields = append(d.Types[0].Fields, api.Field{Name: "n", Type: "int"})
	for s, want := range map[string]int{"N": 0, "E": 1, "int": -1, "": -1, "n": -1} {
		i, err := ast.TypeIndex(d, s)
		if want >= 0 && (i != want || err != api.OK) || want < 0 && (i != 0 || err != api.ErrNone) {
			t.Error(s, i, err)
		}
	}
	for s, want := range map[string]int{"k": 0, "n": 1, "N": -1, "": -1} {
		i, err := ast.FieldIndex(d.Types[0], s)
		if want >= 0 && (i != want || err != api.OK) || want < 0 && (i != 0 || err != api.ErrNone) {
			t.Error(s, i, err)
		}
	}
	if i, err := ast.FieldIndex(api.NodeType{}, "k"); i != 0 || err != api.ErrNone {
		t.Error(i, err)
	}
	d.Name = "if"
	for _, s := range []string{"E", "F"} {
		if i, err := ast.TypeIndex(d, s); i != 0 || err != api.ErrArg {
			t.Error(i, err)
		}
	}
}

func TestCalls(t *testing.T) {
	want := func(want []string, l ...api.Stmt) {
		t.Helper()
		if got, err := ast.Calls(api.Proc{Name: "p", Body: l}); err != api.OK || !slices.Equal(got, want) {
			t.Error(got, err)
		}
	}
	want(nil)
	want(nil, ret(name("a")))
	want([]string{"B", "a", "c", "d"}, do(call("c", call("a"))), set("v", x(api.XAdd, call("a"), num(1))), ret(field(call("d", call("B")), "f")))
	want([]string{"a", "b", "c", "d", "e", "f"}, while(call("f"), when(call("e"), stmts(put(call("d"), "x", call("c"))), stmts(when(name("v"), stmts(do(call("b"))), stmts(ret(call("a")), ret(call("b"))))))))
	for _, p := range []api.Proc{{}, {Name: "p", Result: "if"}, {Name: "p", Body: stmts(api.Stmt{})}, {Name: "p", Params: make([]api.Field, 1)}, {Name: "p", Locals: slices.Repeat([]api.Field{{Name: "a", Type: "int"}}, api.MaxLocals+1)}} {
		if got, err := ast.Calls(p); err != api.ErrArg || len(got) != 0 {
			t.Error(p, got, err)
		}
	}
}
