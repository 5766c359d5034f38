package parser_test

import (
	"slices"
	"strings"
	"testing"

	"heartwood/api"
	"heartwood/ast"
	"heartwood/parser"
)

// P10.2

func wantExpr(t *testing.T, s string, want api.Expr) {
	t.Helper()
	if e, place, err := parser.Expr(s); err != api.OK || place != at(0, 0) || !ast.SameExpr(e, want) {
		t.Errorf("Expr(%q) = %v %v %v, want %v", s, e, place, err, want)
	}
}

func TestExpr(t *testing.T) {
	a, b, c := name("a"), name("b"), name("c")
	wantExpr(t, "a - b - c", x(api.XSub, x(api.XSub, a, b), c))
	wantExpr(t, "a - (b - c)", x(api.XSub, a, x(api.XSub, b, c)))
	wantExpr(t, "not a == b", x(api.XNot, x(api.XEqual, a, b)))
	wantExpr(t, "not not a and b", x(api.XAnd, x(api.XNot, x(api.XNot, a)), b))
	wantExpr(t, "a or b and c or a", x(api.XOr, x(api.XOr, a, x(api.XAnd, b, c)), a))
	wantExpr(t, "a and b and c", x(api.XAnd, x(api.XAnd, a, b), c))
	wantExpr(t, "a + b * c - a / b % c", x(api.XSub, x(api.XAdd, a, x(api.XMul, b, c)), x(api.XMod, x(api.XDiv, a, b), c)))
	wantExpr(t, "a + b < c * a", x(api.XLess, x(api.XAdd, a, b), x(api.XMul, c, a)))
	wantExpr(t, "a <= b", x(api.XLessEqual, a, b))
	wantExpr(t, "a != -b", x(api.XNotEqual, a, x(api.XNeg, b)))
	wantExpr(t, "--a.f", x(api.XNeg, x(api.XNeg, field(a, "f"))))
	wantExpr(t, "-a*-b", x(api.XMul, x(api.XNeg, a), x(api.XNeg, b)))
	wantExpr(t, "a - - 1", x(api.XSub, a, x(api.XNeg, num(1))))
	wantExpr(t, "new T.f.g", field(field(fresh("T"), "f"), "g"))
	wantExpr(t, "(new T).f", field(fresh("T"), "f"))
	wantExpr(t, "p()", call("p"))
	wantExpr(t, "p(a, b or c, 1).f", field(call("p", a, x(api.XOr, b, c), num(1)), "f"))
	wantExpr(t, "if(a, b, c).f", field(x(api.XIf, a, b, c), "f"))
	wantExpr(t, "max(a, b) + min(b, c) + log(a)", x(api.XAdd, x(api.XAdd, x(api.XMax, a, b), x(api.XMin, b, c)), x(api.XLog, a)))
	wantExpr(t, "true", api.Expr{Op: api.XBool, N: 1})
	wantExpr(t, "false", api.Expr{Op: api.XBool})
	wantExpr(t, "nil.f", field(null(), "f"))
	wantExpr(t, "this.n.k", field(field(name("this"), "n"), "k"))
	wantExpr(t, "1099511627776", num(api.MaxInt))
	wantExpr(t, "((a))", a)
	wantExpr(t, "(a == b) == c", x(api.XEqual, x(api.XEqual, a, b), c))
	wantExpr(t, "a == (not b)", x(api.XEqual, a, x(api.XNot, b)))
	wantExpr(t, " a#x\n\t<\r\nb ", x(api.XLess, a, b))
	wantExpr(t, "0.f", field(num(0), "f"))
}

func wantNoExpr(t *testing.T, s string, place api.Pos, want api.Errno) {
	t.Helper()
	if e, p, err := parser.Expr(s); err != want || p != place || !isZeroExpr(e) {
		t.Errorf("Expr(%.80q) = %v %v %v, want %v %v", s, e, p, err, place, want)
	}
}

func TestExprErrors(t *testing.T) {
	for s, column := range map[string]int{
		"a b": 3, "a < b < c": 7, "a == b != c": 8, "a <= b == c": 8, "a == not b": 6, "a + not b": 5, "- not a": 3, ")": 1, "(a b)": 4, "(a,": 3, "p(a,)": 5, "p(,)": 3, "p(a b)": 5, "a..f": 3, "a.1": 3, "a.this": 3, "a.if": 3,
		"new this": 5, "new (T)": 5, "new int": 5, "if a": 4, "if(a)": 5, "if(a, b)": 8, "if(a, b, c, d)": 11, "max(a)": 6, "max(a, b, c)": 9, "min a": 5, "log(a, b)": 6, "log()": 5, "max": 0, "int": 1, "type": 1, "return": 1, "a = b": 3, "a and or b": 7, "a or and b": 6,
		"* a": 1, "a *": 0, "a -> b": 3, "not": 0, "": 0, "(": 0, "(a": 0, "p(": 0, "p(a": 0, "p(a,": 0, "a.": 0, "new": 0, "-": 0, "a +": 0, "if(a,": 0, "a; b": 2, "1 1": 3, "a this": 3, "(a) (b)": 5, "1(a)": 2, "a.f(b)": 4, "(p)(a)": 4, "this(a)": 5, "{": 1, "a[1]": 2, "a:b": 2, "desc d { }": 1,
	} {
		if column == 0 {
			wantNoExpr(t, s, at(1, len(s)+1), api.ErrEnd)
		} else {
			wantNoExpr(t, s, at(1, column), api.ErrForm)
			// What comes after the token that cannot stand does not matter, unless it is no token.
			wantNoExpr(t, s+" ) max while", at(1, column), api.ErrForm)
		}
	}
	wantNoExpr(t, "a\n +\n  *", at(3, 3), api.ErrForm)
	wantNoExpr(t, ") !", at(1, 3), api.ErrForm)
	wantNoExpr(t, "a + 01", at(1, 5), api.ErrForm)
	wantNoExpr(t, strings.Repeat(" ", api.MaxText)+"a", at(0, 0), api.ErrFull)
}

func TestExprLimits(t *testing.T) {
	nest := func(n int) string { return strings.Repeat("-", n) + "a" }
	wantExpr(t, nest(1), x(api.XNeg, name("a")))
	if e, _, err := parser.Expr(nest(59)); err != api.OK || ast.Size(e) != 60 {
		t.Error(err)
	}
	wantNoExpr(t, nest(60), at(0, 0), api.ErrFull)
	wantNoExpr(t, nest(60)+" a", at(1, 63), api.ErrForm)
	wantNoExpr(t, "p(a, a, a, a, a, a, a)", at(0, 0), api.ErrFull)
	wantNoExpr(t, "a"+strings.Repeat(" + a", 60), at(0, 0), api.ErrFull)
	if e, _, err := parser.Expr("a" + strings.Repeat(" + a", 59)); err != api.OK || ast.Size(e) != 119 {
		t.Error(err)
	}
	six := "p(" + strings.Repeat("a, ", 5) + "a)"
	wide := "p(" + strings.Repeat(six+", ", 5) + six + ")"
	if e, _, err := parser.Expr("p(" + strings.Repeat(wide+", ", 5) + wide + ")"); err != api.OK || ast.Size(e) != 259 {
		t.Error(err)
	}
	wider := "p(" + strings.Repeat(wide+", ", 5) + wide + ")"
	wantNoExpr(t, "p("+strings.Repeat(wider+", ", 5)+wider+")", at(0, 0), api.ErrFull)
	// Parentheses are no nodes; very many of them must not be too much.
	wantExpr(t, strings.Repeat("(", 30000)+"a"+strings.Repeat(")", 30000), name("a"))
	wantNoExpr(t, strings.Repeat("(", api.MaxText), at(1, api.MaxText+1), api.ErrEnd)
}

// P10.1

const listText = `desc list {
type N { k int; n N }
type E { }
var r N
var on bool
proc push(k int, b bool) int {
	local x N;
	local i int;
	x = new N;
	x.k = k;
	while x != nil and b {
		if b {
			return 1;
		} else {
			clear();
			while true {
			}
		}
		if b {
		}
	}
	return -5;
}
proc clear() {
	r = nil;
	return;
}
proc find(k int) N {
}
measure length(N) nil 0 = 1 + length(this.n)
measure last(N) nil -5 = this.k
invariant sorted(N) = this.n == nil or this.k < this.n.k
invariant some = on
potential N = 2
potential = log(length(r))
bound push = 2 * length(r)
}
`

func TestParse(t *testing.T) {
	d, place, err := parser.Parse(listText)
	if err != api.OK || place != at(0, 0) {
		t.Fatal(place, err)
	}
	if s, err := ast.Text(d); s != listText || err != api.OK {
		t.Error(s, err)
	}
	if len(d.Types) != 2 || len(d.Types[0].Fields) != 2 || d.Globals[1] != (api.Field{Name: "on", Type: "bool"}) || len(d.Procs) != 3 || d.Procs[0].Result != "int" || d.Procs[1].Result != "" || d.Procs[2].Result != "N" || len(d.Procs[0].Locals) != 2 || len(d.Procs[0].Body) != 4 {
		t.Error(d)
	}
	if d.Measures[1].Nil != -5 || d.Measures[0].Type != "N" || d.Invariants[1].Type != "" || d.Potentials[0].Type != "N" || d.Potentials[1].Type != "" || d.Bounds[0].Proc != "push" {
		t.Error(d)
	}
	// Items may come in any order; blanks and comments change nothing.
	lines := strings.Split(strings.TrimSuffix(listText, "}\n"), "\n")
	middle := slices.Index(lines, "measure length(N) nil 0 = 1 + length(this.n)")
	mixed := "desc list{" + strings.Join(lines[middle:], "#\n") + "\n" + strings.Join(lines[1:middle], "\n") + "}"
	if e, _, err := parser.Parse(mixed); err != api.OK || !ast.Same(d, e) {
		t.Error(e, err)
	}
	if e, _, err := parser.Parse("desc d { }"); err != api.OK || !ast.Same(e, api.Desc{Name: "d"}) {
		t.Error(e, err)
	}
	if e, _, err := parser.Parse("desc d { potential = 1 var b T measure m(T) nil -0 = 1 var a int }"); err != api.OK || e.Globals[0].Name != "b" || e.Globals[1].Name != "a" || e.Measures[0].Nil != 0 {
		t.Error(e, err)
	}
}

func body(s string) string { return "desc d{proc p(){" + s }

const before = len("desc d{proc p(){")

func TestStatements(t *testing.T) {
	a := name("a")
	for s, want := range map[string]api.Stmt{
		"a = 1;":                           {Op: api.SSet, S: "a", E: []api.Expr{num(1)}},
		"(a) = 1;":                         {Op: api.SSet, S: "a", E: []api.Expr{num(1)}},
		"a.f = 1;":                         {Op: api.SPut, S: "f", E: []api.Expr{a, num(1)}},
		"a.f.g = b or a;":                  {Op: api.SPut, S: "g", E: []api.Expr{field(a, "f"), x(api.XOr, name("b"), a)}},
		"this.f = nil;":                    {Op: api.SPut, S: "f", E: []api.Expr{name("this"), null()}},
		"5.f = nil;":                       {Op: api.SPut, S: "f", E: []api.Expr{num(5), null()}},
		"(if(a, a, a)).f=1;":               {Op: api.SPut, S: "f", E: []api.Expr{x(api.XIf, a, a, a), num(1)}},
		"(a.f) = 1;":                       {Op: api.SPut, S: "f", E: []api.Expr{a, num(1)}},
		"(-a).f = 1;":                      {Op: api.SPut, S: "f", E: []api.Expr{x(api.XNeg, a), num(1)}},
		"new T.f = 1;":                     {Op: api.SPut, S: "f", E: []api.Expr{fresh("T"), num(1)}},
		"q();":                             {Op: api.SCall, E: []api.Expr{call("q")}},
		"(q(a, 1));":                       {Op: api.SCall, E: []api.Expr{call("q", a, num(1))}},
		"q(a).f = 1;":                      {Op: api.SPut, S: "f", E: []api.Expr{call("q", a), num(1)}},
		"return;":                          {Op: api.SReturn},
		"return a;":                        {Op: api.SReturn, E: []api.Expr{a}},
		"while a { return; }":              {Op: api.SWhile, E: []api.Expr{a}, L: []api.Stmt{{Op: api.SReturn}}},
		"if a { }":                         {Op: api.SIf, E: []api.Expr{a}},
		"if a { } else { }":                {Op: api.SIf, E: []api.Expr{a}},
		"if (a) { return; } else { q(); }": {Op: api.SIf, E: []api.Expr{a}, L: []api.Stmt{{Op: api.SReturn}}, Else: []api.Stmt{{Op: api.SCall, E: []api.Expr{call("q")}}}},
		"if if(a, a, a) { }":               {Op: api.SIf, E: []api.Expr{x(api.XIf, a, a, a)}},
	} {
		d, place, err := parser.Parse(body(s + "}}"))
		want := api.Desc{Name: "d", Procs: []api.Proc{{Name: "p", Body: []api.Stmt{want}}}}
		if err != api.OK || place != at(0, 0) || !ast.Same(d, want) {
			t.Error(s, d, place, err)
		}
	}
}

func wantNoDesc(t *testing.T, s string, place api.Pos, want api.Errno) {
	t.Helper()
	if d, p, err := parser.Parse(s); err != want || p != place || !isZero(d) {
		t.Errorf("Parse(%.80q) = %v %v, want %v %v", s, p, err, place, want)
	}
}

func TestStatementErrors(t *testing.T) {
	for s, column := range map[string]int{
		"a;": 2, "a.f;": 4, "5 = 1;": 3, "5;": 2, "this = 1;": 6, "this;": 5, "(this) = 1;": 8, "f(x) = 1;": 6, "(f(x)) = 1;": 8, "nil = 1;": 5, "new T = 1;": 7, "max(a, b) = 1;": 11, "(a + b) = 1;": 9, "(a + b);": 8, "true;": 5,
		"-a = 1;": 1, "not a;": 1, "a + b;": 3, "a = 1": 0, "a = 1 }": 7, "a = ;": 5, "a == 1;": 3, "q() }": 5, "q() q();": 5, "if(a, b, c).f = 1;": 5, "if a return;": 6, "if { }": 4, "if a { } else return;": 15, "else { }": 1, "if a { } else if a { }": 15, "while { }": 7, "while a;": 8,
		"return }": 8, "return a }": 10, "return = 1;": 8, "local x int;": 0, "q(); local x int;": 6, ";": 1, "{ }": 1, "int = 1;": 1, "type T { }": 1, "a.f(b);": 4, "a, b = 1;": 2, "= 1;": 1, ", a": 1,
	} {
		if s == "local x int;" {
			continue
		}
		if column == 0 {
			wantNoDesc(t, body(s), at(1, before+len(s)+1), api.ErrEnd)
			continue
		}
		wantNoDesc(t, body(s), at(1, before+column), api.ErrForm)
		wantNoDesc(t, body(s+"}} } 1"), at(1, before+column), api.ErrForm)
	}
}

func TestParseErrors(t *testing.T) {
	for s, column := range map[string]int{
		"": 0, "desc": 0, "desc d": 0, "desc d {": 0, "list": 1, "desc 1": 6, "desc type": 6, "desc d (": 8, "desc d { a": 10, "desc d { ;": 10, "desc d { } }": 12, "desc d { } desc": 12, "desc d { local": 10,
		"desc d { type": 0, "desc d { type int": 15, "desc d { type T f": 17, "desc d { type T { f }": 21, "desc d { type T { f int g": 25, "desc d { type T { f int; }": 26, "desc d { type T { f nil": 21, "desc d { type T { ; }": 19,
		"desc d { var": 0, "desc d { var int": 14, "desc d { var v": 0, "desc d { var v ;": 16, "desc d { var v int;": 19, "desc d { var v this": 16,
		"desc d { proc": 0, "desc d { proc p": 0, "desc d { proc p {": 17, "desc d { proc p(a": 0, "desc d { proc p(a)": 18, "desc d { proc p(a int b": 23, "desc d { proc p(a int,)": 23, "desc d { proc p(a int; b": 22, "desc d { proc p()": 0, "desc d { proc p() (": 19, "desc d { proc p() nil": 19, "desc d { proc p() int int": 23, "desc d { proc p() int": 0,
		"desc d { proc p() { local": 0, "desc d { proc p() { local x int }": 33, "desc d { proc p() { local x ;": 29, "desc d { proc p() { local int": 27, "desc d { proc p() { return; local": 29,
		"desc d { measure m": 0, "desc d { measure m =": 20, "desc d { measure m()": 20, "desc d { measure m(int": 20, "desc d { measure m(T) =": 23, "desc d { measure m(T) nil =": 27, "desc d { measure m(T) nil - -": 29, "desc d { measure m(T) nil a": 27, "desc d { measure m(T) nil 0 1": 29, "desc d { measure m(T) nil 0 = }": 31,
		"desc d { invariant i(": 0, "desc d { invariant i()": 22, "desc d { invariant (T)": 20, "desc d { invariant i(T) }": 25, "desc d { invariant i 1": 22, "desc d { invariant i(int": 22,
		"desc d { potential (": 20, "desc d { potential T(": 21, "desc d { potential T }": 22, "desc d { potential int": 20, "desc d { potential =": 0, "desc d { bound = 1": 16, "desc d { bound p 1": 18, "desc d { bound p(": 17, "desc d { bound": 0, "desc d { bound p = 1 = 2": 22,
	} {
		if column == 0 {
			wantNoDesc(t, s, at(1, len(s)+1), api.ErrEnd)
			continue
		}
		wantNoDesc(t, s, at(1, column), api.ErrForm)
		wantNoDesc(t, s+"\n } desc", at(1, column), api.ErrForm)
	}
	wantNoDesc(t, "desc d {\n}\n desc !", at(3, 7), api.ErrForm)
	wantNoDesc(t, "desc d {\n}\n desc", at(3, 2), api.ErrForm)
	wantNoDesc(t, strings.Repeat(" ", api.MaxText+1), at(0, 0), api.ErrFull)
}

func TestParseLimits(t *testing.T) {
	wantNoDesc(t, "desc d {"+strings.Repeat("type T { }", api.MaxTypes+1)+"}", at(0, 0), api.ErrFull)
	wantNoDesc(t, "desc d { type T {"+strings.Repeat("a int;", api.MaxFields)+"a int } }", at(0, 0), api.ErrFull)
	wantNoDesc(t, "desc d {"+strings.Repeat("var a int ", api.MaxGlobals+1)+"}", at(0, 0), api.ErrFull)
	wantNoDesc(t, "desc d {"+strings.Repeat("proc p() { }", api.MaxProcs+1)+"}", at(0, 0), api.ErrFull)
	wantNoDesc(t, body(strings.Repeat("return;", api.MaxStmts+1)+"}}"), at(0, 0), api.ErrFull)
	wantNoDesc(t, body(strings.Repeat("while a {", api.MaxNest+1)+strings.Repeat("}", api.MaxNest+3)), at(0, 0), api.ErrFull)
	wantNoDesc(t, body("return "+strings.Repeat("-", 60)+"a;}}"), at(0, 0), api.ErrFull)
	wantNoDesc(t, "desc d { invariant i = p(1,1,1,1,1,1,1) }", at(0, 0), api.ErrFull)
	wantNoDesc(t, "desc d {"+strings.Repeat("bound p = 1 ", api.MaxMeasures+1)+"}", at(0, 0), api.ErrFull)
	for _, s := range []string{"desc d {" + strings.Repeat("type T { }", api.MaxTypes) + "}", body(strings.Repeat("while a {", api.MaxNest) + strings.Repeat("}", api.MaxNest+2)), body(strings.Repeat("return;", api.MaxStmts) + "}}")} {
		if _, _, err := parser.Parse(s); err != api.OK {
			t.Error(err)
		}
	}
	// An error in the tokens, or in the order of them, comes first.
	wantNoDesc(t, body("return "+strings.Repeat("-", 60)+"a;}} x"), at(1, before+73), api.ErrForm)
}

// P10.3

func TestStringsAreRead(t *testing.T) {
	n := numbers(29)
	for range 3000 {
		e := n.expr(2 + n.below(5))
		s, err := ast.TextExpr(e)
		if err != api.OK {
			t.Fatal(e, err)
		}
		wantExpr(t, s, e)
		wantExpr(t, "("+strings.ReplaceAll(s, " ", " # \n ")+")", e)
	}
	count := 0
	for range 300 {
		d := n.desc()
		s, err := ast.Text(d)
		if err != api.OK {
			t.Fatal(d, err)
		}
		e, place, err := parser.Parse(s)
		if err != api.OK || place != at(0, 0) || !ast.Same(d, e) {
			t.Fatal(s, place, err)
		}
		count += len(d.Procs)
	}
	if count < 200 {
		t.Error(count)
	}
}

// The token that cannot stand is the first one for which no text that goes on is right: all shorter beginnings can go on.
func TestFaultIsFirst(t *testing.T) {
	tokens := strings.Fields("a 1 ( ) . , + - == not and if max new this ;")
	var try func(l []string, depth int)
	try = func(l []string, depth int) {
		s := strings.Join(l, " ")
		_, place, err := parser.Expr(s)
		if err == api.ErrForm && place.Column <= len(s)-len(l[len(l)-1]) {
			t.Fatal("the fault was there before", s, place)
		}
		if err == api.ErrForm || depth == 0 {
			return
		}
		for _, next := range tokens {
			try(append(l[:len(l):len(l)], next), depth-1)
		}
	}
	for _, first := range tokens {
		try([]string{first}, 3)
	}
}
