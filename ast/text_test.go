package ast_test

import (
	"slices"
	"strings"
	"testing"

	"heartwood/api"
	"heartwood/ast"
)

// P9.3

func wantText(t *testing.T, e api.Expr, want string) {
	t.Helper()
	if s, err := ast.TextExpr(e); s != want || err != api.OK {
		t.Errorf("TextExpr = %s %v, want %s", s, err, want)
	}
}

func TestTextExpr(t *testing.T) {
	a, b, c := name("a"), name("b"), name("c")
	wantText(t, x(api.XSub, a, x(api.XSub, b, c)), "a - (b - c)")
	wantText(t, x(api.XSub, x(api.XSub, a, b), c), "a - b - c")
	wantText(t, x(api.XNot, x(api.XAnd, a, b)), "not (a and b)")
	wantText(t, x(api.XNeg, x(api.XNeg, a)), "--a")
	wantText(t, num(0), "0")
	wantText(t, num(api.MaxInt), "1099511627776")
	wantText(t, boolean(1), "true")
	wantText(t, boolean(0), "false")
	wantText(t, null(), "nil")
	wantText(t, name("this"), "this")
	wantText(t, fresh("T"), "new T")
	wantText(t, field(fresh("T"), "f"), "new T.f")
	wantText(t, field(field(a, "f"), "g"), "a.f.g")
	wantText(t, field(num(1), "f"), "1.f")
	wantText(t, field(x(api.XNeg, a), "f"), "(-a).f")
	wantText(t, field(x(api.XAdd, a, b), "f"), "(a + b).f")
	wantText(t, field(x(api.XIf, a, b, c), "f"), "if(a, b, c).f")
	wantText(t, field(call("p"), "f"), "p().f")
	wantText(t, call("p", a, x(api.XOr, a, b), num(1)), "p(a, a or b, 1)")
	wantText(t, x(api.XMax, a, x(api.XOr, b, c)), "max(a, b or c)")
	wantText(t, x(api.XMin, x(api.XNot, a), b), "min(not a, b)")
	wantText(t, x(api.XLog, x(api.XAdd, a, b)), "log(a + b)")
	wantText(t, x(api.XNeg, x(api.XLog, a)), "-log(a)")
	wantText(t, x(api.XNeg, x(api.XMul, a, b)), "-(a * b)")
	wantText(t, x(api.XMul, x(api.XNeg, a), x(api.XNeg, b)), "-a * -b")
	wantText(t, x(api.XSub, a, x(api.XNeg, b)), "a - -b")
	wantText(t, x(api.XNeg, num(5)), "-5")
	wantText(t, x(api.XAdd, x(api.XMul, a, b), x(api.XMod, a, b)), "a * b + a % b")
	wantText(t, x(api.XMul, x(api.XAdd, a, b), x(api.XMod, a, b)), "(a + b) * (a % b)")
	wantText(t, x(api.XDiv, x(api.XMul, a, b), x(api.XDiv, b, c)), "a * b / (b / c)")
	wantText(t, x(api.XEqual, x(api.XLess, a, b), x(api.XLessEqual, b, c)), "(a < b) == (b <= c)")
	wantText(t, x(api.XNotEqual, x(api.XAdd, a, b), x(api.XSub, b, c)), "a + b != b - c")
	wantText(t, x(api.XNotEqual, x(api.XNot, a), x(api.XOr, b, c)), "(not a) != (b or c)")
	wantText(t, x(api.XNot, x(api.XNot, x(api.XEqual, a, b))), "not not a == b")
	wantText(t, x(api.XNot, x(api.XOr, a, b)), "not (a or b)")
	wantText(t, x(api.XAnd, x(api.XNot, a), x(api.XNot, b)), "not a and not b")
	wantText(t, x(api.XAnd, x(api.XAnd, a, b), x(api.XAnd, b, c)), "a and b and (b and c)")
	wantText(t, x(api.XOr, x(api.XAnd, a, b), x(api.XAnd, b, c)), "a and b or b and c")
	wantText(t, x(api.XAnd, x(api.XOr, a, b), x(api.XOr, b, c)), "(a or b) and (b or c)")
	wantText(t, x(api.XOr, a, x(api.XOr, b, c)), "a or (b or c)")
	wantText(t, x(api.XAdd, x(api.XNot, a), x(api.XLess, b, c)), "(not a) + (b < c)")
	wantText(t, x(api.XIf, x(api.XOr, a, b), x(api.XNot, a), x(api.XAdd, b, c)), "if(a or b, not a, b + c)")
}

// levels of operators, and the words and levels that they ask for on both sides.
func operators() map[int][4]any {
	return map[int][4]any{
		api.XOr: {"or", 1, 1, 2}, api.XAnd: {"and", 2, 2, 3}, api.XEqual: {"==", 4, 5, 5}, api.XNotEqual: {"!=", 4, 5, 5}, api.XLess: {"<", 4, 5, 5}, api.XLessEqual: {"<=", 4, 5, 5},
		api.XAdd: {"+", 5, 5, 6}, api.XSub: {"-", 5, 5, 6}, api.XMul: {"*", 6, 6, 7}, api.XDiv: {"/", 6, 6, 7}, api.XMod: {"%", 6, 6, 7},
	}
}

// Each operator in each other one, on both sides.
func TestParentheses(t *testing.T) {
	a, b, c := name("a"), name("b"), name("c")
	around := func(s string, level, asked any) string {
		if level.(int) < asked.(int) {
			return "(" + s + ")"
		}
		return s
	}
	for outer, o := range operators() {
		for inner, i := range operators() {
			part := "b " + i[0].(string) + " c"
			wantText(t, x(outer, x(inner, b, c), a), around(part, i[1], o[2])+" "+o[0].(string)+" a")
			wantText(t, x(outer, a, x(inner, b, c)), "a "+o[0].(string)+" "+around(part, i[1], o[3]))
		}
		part := "b " + o[0].(string) + " c"
		wantText(t, x(api.XNot, x(outer, b, c)), "not "+around(part, o[1], 3))
		wantText(t, x(api.XNeg, x(outer, b, c)), "-"+around(part, o[1], 7))
		wantText(t, field(x(outer, b, c), "f"), around(part, o[1], 8)+".f")
		wantText(t, x(api.XLog, x(outer, b, c)), "log("+part+")")
		wantText(t, x(outer, x(api.XNot, b), a), around("not b", 3, o[2])+" "+o[0].(string)+" a")
		wantText(t, x(outer, a, x(api.XNeg, b)), "a "+o[0].(string)+" -b")
	}
}

func TestTextExprErrors(t *testing.T) {
	for i, e := range badExprs() {
		if s, err := ast.TextExpr(e); s != "" || err != api.ErrArg {
			t.Error(i, s, err)
		}
	}
	// 500 names of 40 bytes with " + " between them: 499 additions, and 500 * 40 + 499 * 3 bytes.
	if s, err := ast.TextExpr(bush(999, name(long()))); len(s) < 500*40+499*3 || err != api.OK {
		t.Error(len(s), err)
	}
}

func TestText(t *testing.T) {
	if s, err := ast.Text(list()); s != listText || err != api.OK {
		t.Errorf("%s\n%v", s, err)
	}
	if s, err := ast.Text(api.Desc{Name: "d"}); s != "desc d {\n}\n" || err != api.OK {
		t.Error(s, err)
	}
	one := inProc(when(name("a"), stmts(ret()), stmts(set("b", num(1)))))
	one.Types = []api.NodeType{{Name: "T", Fields: []api.Field{{Name: "f", Type: "bool"}}}}
	if s, err := ast.Text(one); s != "desc d {\ntype T { f bool }\nproc p() {\n\tif a {\n\t\treturn;\n\t} else {\n\t\tb = 1;\n\t}\n}\n}\n" || err != api.OK {
		t.Error(s, err)
	}
	if s, err := ast.Text(api.Desc{}); s != "" || err != api.ErrArg {
		t.Error(s, err)
	}
	for i, change := range changes() {
		d := list()
		change(&d)
		if s, err := ast.Text(d); s == listText || err != api.OK {
			t.Error(i, s, err)
		}
	}
}

func TestTextOfPut(t *testing.T) {
	a, b, c := name("a"), name("b"), name("c")
	for _, p := range []struct {
		e    api.Expr
		want string
	}{
		{a, "a.f"}, {field(a, "g"), "a.g.f"}, {call("p", a), "p(a).f"}, {x(api.XIf, a, b, c), "(if(a, b, c)).f"}, {field(x(api.XIf, a, b, c), "g"), "(if(a, b, c).g).f"},
		{field(field(x(api.XIf, a, b, c), "g"), "h"), "(if(a, b, c).g.h).f"}, {fresh("T"), "new T.f"}, {x(api.XNeg, a), "(-a).f"}, {x(api.XAdd, x(api.XIf, a, b, c), a), "(if(a, b, c) + a).f"}, {null(), "nil.f"}, {x(api.XMax, a, b), "max(a, b).f"}, {name("iff"), "iff.f"},
		{call("p", x(api.XIf, a, b, c)), "p(if(a, b, c)).f"}, {name("this"), "this.f"},
	} {
		s, err := ast.Text(inProc(put(p.e, "f", x(api.XIf, a, b, c))))
		if s != "desc d {\nproc p() {\n\t"+p.want+" = if(a, b, c);\n}\n}\n" || err != api.OK {
			t.Error(s, err)
		}
	}
}

func TestTextLimit(t *testing.T) {
	d := api.Desc{Name: "d", Procs: []api.Proc{{Name: "p"}}}
	s, _ := ast.Text(d)
	// Each statement "v = nn..;" has a tab, 5 further bytes with the newline, 1 for v, and the name.
	add := func(n int) { d.Procs[0].Body = append(d.Procs[0].Body, set("v", name(strings.Repeat("n", n)))) }
	left := api.MaxText - len(s)
	e := bush(999, name(long()))
	for _, part := range []api.Expr{e, bush(99, name(long()))} {
		for {
			before := len(s)
			d.Procs[0].Body = append(d.Procs[0].Body, set("v", part))
			longer, _ := ast.Text(d)
			if len(longer) == 0 {
				d.Procs[0].Body = d.Procs[0].Body[:len(d.Procs[0].Body)-1]
				break
			}
			s = longer
			left -= len(s) - before
		}
	}
	for left >= 100 {
		add(40)
		left -= 47
	}
	for left > 47 {
		add(20)
		left -= 27
	}
	add(left - 7)
	if s, err := ast.Text(d); len(s) != api.MaxText || err != api.OK {
		t.Fatal(len(s), err, left)
	}
	last := &d.Procs[0].Body[len(d.Procs[0].Body)-1]
	last.S = "vv"
	if s, err := ast.Text(d); s != "" || err != api.ErrFull {
		t.Error(len(s), err)
	}
	d.Name = ""
	if s, err := ast.Text(d); s != "" || err != api.ErrArg {
		t.Error(len(s), err)
	}
	// The greatest description ends soon.
	d.Name = "d"
	d.Procs = slices.Repeat([]api.Proc{{Name: "p", Body: slices.Repeat(stmts(ret(e)), api.MaxStmts)}}, api.MaxProcs)
	if s, err := ast.Text(d); s != "" || err != api.ErrFull {
		t.Error(len(s), err)
	}
}

// smallExprs returns many different expressions.
func smallExprs() []api.Expr {
	leaves := []api.Expr{num(1), name("a"), null(), boolean(1), call("a"), fresh("a")}
	l := slices.Clone(leaves)
	for range 2 {
		var next []api.Expr
		for i, e := range l {
			next = append(next, x(api.XNeg, e), x(api.XNot, e), field(e, "a"), x(api.XLog, e), call("a", e))
			for k, op := range binary() {
				next = append(next, x(op, e, leaves[(i+k)%2]), x(op, leaves[(i+k)%2], e))
			}
		}
		l = append(l, next...)
	}
	return l
}

// P9.5: different expressions have different strings.
func TestStringsDiffer(t *testing.T) {
	seen := map[string]api.Expr{}
	for _, e := range smallExprs() {
		s, err := ast.TextExpr(e)
		if err != api.OK {
			t.Fatal(e, err)
		}
		if old, ok := seen[s]; ok && !ast.SameExpr(old, e) {
			t.Fatal(s, old, e)
		}
		seen[s] = e
	}
	if len(seen) < 3000 {
		t.Error(len(seen))
	}
}

// P9.5: a part that is replaced by another one of the same level and length changes only its place.
func TestReplacedPart(t *testing.T) {
	for _, e := range smallExprs()[:200] {
		for _, pair := range [][2]api.Expr{{name("xx"), num(77)}, {x(api.XAdd, num(1), num(2)), x(api.XSub, name("p"), name("q"))}, {x(api.XLess, num(1), num(2)), x(api.XLess, name("u"), name("v"))}, {x(api.XOr, num(1), num(2)), x(api.XOr, name("u"), name("v"))}} {
			s, _ := ast.TextExpr(x(api.XMul, e, pair[0]))
			r, _ := ast.TextExpr(x(api.XMul, e, pair[1]))
			p, _ := ast.TextExpr(pair[0])
			q, _ := ast.TextExpr(pair[1])
			if len(s) != len(r) || strings.TrimSuffix(strings.TrimSuffix(s, ")"), p) != strings.TrimSuffix(strings.TrimSuffix(r, ")"), q) {
				t.Fatal(s, r)
			}
		}
	}
}
