package typecheck_test

import (
	"slices"
	"strings"
	"testing"

	"heartwood/api"
	"heartwood/ast"
	"heartwood/parser"
	"heartwood/typecheck"
)

func parse(t *testing.T, s string) api.Desc {
	t.Helper()
	d, place, err := parser.Parse(s)
	if err != api.OK {
		t.Fatal(s, place, err)
	}
	return d
}

func parseExpr(t *testing.T, s string) api.Expr {
	t.Helper()
	e, place, err := parser.Expr(s)
	if err != api.OK {
		t.Fatal(s, place, err)
	}
	return e
}

// list is well-typed, and uses everything.
const list = `desc list {
type T { k int; n T; on bool }
type U { t T; u U }
var r T
var c int
var x bool
proc push(k int) int {
	local p T;
	p = new T;
	p.k = k;
	p.n = r;
	r = p;
	c = c + 1;
	return c;
}
proc clear() {
	r = nil;
	return;
}
proc find(k int, from T) T {
	while from != nil and from.k != k {
		from = from.n;
	}
	return from;
}
proc has(c bool) bool {
	local r int;
	if c {
		clear();
		return find(1, nil) == nil;
	} else {
		r = push(2);
		push(r);
		find(r, new T);
	}
	return x;
}
proc stop() bool {
	return c < 1;
}
measure length(T) nil 0 = 1 + length(this.n)
measure depth(U) nil 1 = max(depth(this.u), length(this.t)) + if(x, c, length(nil))
invariant sorted(T) = this.n == nil or this.k <= this.n.k
invariant counted = c == length(r)
potential T = if(this.on, this.k, 0)
potential = log(c)
bound push = k + length(r)
bound has = if(c, 1, 2)
}
`

// with is list with texts replaced by other ones.
func with(t *testing.T, l ...string) string {
	t.Helper()
	s := list
	for i := 0; i < len(l); i += 2 {
		if !strings.Contains(s, l[i]) {
			t.Fatal(l[i])
		}
		s = strings.Replace(s, l[i], l[i+1], 1)
	}
	return s
}

// P11.1

func wantCheck(t *testing.T, s, place string, index int, want api.Errno) {
	t.Helper()
	if p, i, err := typecheck.Check(parse(t, s)); p != place || i != index || err != want {
		t.Errorf("Check = %q %d %v, want %q %d %v", p, i, err, place, index, want)
	}
}

func TestCheck(t *testing.T) {
	wantCheck(t, list, "", 0, api.OK)
	wantCheck(t, "desc d { }", "", 0, api.OK)
	for _, d := range []api.Desc{{}, {Name: "if"}, {Name: "d", Procs: make([]api.Proc, 1)}} {
		if p, i, err := typecheck.Check(d); p != "" || i != 0 || err != api.ErrArg {
			t.Error(p, i, err)
		}
	}
	d := parse(t, list)
	d.Types[1].Name = "T"
	d.Bounds[0].X.N = 99
	if p, i, err := typecheck.Check(d); p != "" || i != 0 || err != api.ErrArg {
		t.Error(p, i, err)
	}
}

func TestHeads(t *testing.T) {
	for _, c := range []struct {
		old, new, place string
		err             api.Errno
	}{
		{"type U {", "type T {", "T", api.ErrTwice}, {"on bool", "k bool", "T", api.ErrTwice}, {"on bool", "on V", "T", api.ErrName}, {"t T; u U", "t T; t V", "U", api.ErrTwice}, {"t T; u U", "t V; t V", "U", api.ErrName},
		{"var x bool", "var r bool", "r", api.ErrTwice}, {"var x bool", "var x V", "x", api.ErrName}, {"var x bool", "var c V", "c", api.ErrTwice},
		{"proc stop()", "proc clear()", "clear", api.ErrTwice}, {"k int, from T", "k int, k T", "find", api.ErrTwice}, {"k int, from T", "k int, from V", "find", api.ErrName}, {"local p T", "local k T", "push", api.ErrTwice}, {"local p T", "local p V", "push", api.ErrName},
		{"local r int", "local r int; local r bool", "has", api.ErrTwice}, {"from T) T", "from T) V", "find", api.ErrName}, {"from T) T", "from V) V", "find", api.ErrName},
		{"measure depth(U)", "measure length(U)", "length", api.ErrTwice}, {"measure depth(U)", "measure depth(V)", "depth", api.ErrName}, {"measure depth(U)", "measure length(V)", "length", api.ErrTwice},
		{"invariant counted", "invariant sorted", "sorted", api.ErrTwice}, {"invariant sorted(T)", "invariant sorted(V)", "sorted", api.ErrName}, {"invariant counted", "invariant sorted(V)", "sorted", api.ErrTwice},
		{"potential T", "potential V", "potential", api.ErrName}, {"bound has", "bound other", "other", api.ErrName}, {"bound has", "bound push", "push", api.ErrTwice}, {"bound has", "bound length", "length", api.ErrName},
	} {
		wantCheck(t, with(t, c.old, c.new), c.place, -1, c.err)
	}
	// A type, a variable, a procedure, and a measure may have the same name; so may a procedure's variable and a global one.
	wantCheck(t, "desc d { type a { a int; b a } var a a var b bool proc a(a int) int { local b bool; b = a < a(a); return a; } measure a(a) nil 0 = this.a + a(this.b) invariant a(a) = b bound a = a }", "", 0, api.OK)
}

func TestBodies(t *testing.T) {
	proc := func(body string) string {
		return with(t, "proc stop() bool {\n\treturn c < 1;", "proc fails(i int, b bool, q T) int {\n\tlocal w U;\n\t"+body)
	}
	for _, c := range []struct {
		body  string
		index int
		err   api.Errno
	}{
		{"i = 1; b = q == nil; q = nil; w = w.u; return i;", 0, api.OK}, {"return 1; return i / 2 % 3 * 4 - -1; return max(i, min(1, log(i)));", 0, api.OK}, {"", 0, api.OK},
		{"z = 1;", 0, api.ErrName}, {"z = y;", 0, api.ErrName}, {"i = b;", 0, api.ErrType}, {"b = 1;", 0, api.ErrType}, {"i = nil;", 0, api.ErrType}, {"q = w;", 0, api.ErrType}, {"q = new U;", 0, api.ErrType}, {"x = 1;", 0, api.ErrType}, {"c = 1; r = q; x = b; x = nil;", 3, api.ErrType},
		{"this = 1;", -2, api.OK}, {"i = this;", 0, api.ErrName},
		{"q.k = 1; q.n = nil; q.n = q; q.on = b; w.t = q;", 0, api.OK}, {"q.k = b;", 0, api.ErrType}, {"q.z = 1;", 0, api.ErrName}, {"i.k = 1;", 0, api.ErrType}, {"nil.k = 1;", 0, api.ErrType}, {"nil.k = zz;", 0, api.ErrName}, {"zz.k = i + b;", 0, api.ErrName}, {"q.n = w;", 0, api.ErrType}, {"q.z = i + b;", 0, api.ErrType}, {"b.z = 1;", 0, api.ErrType}, {"q.k = nil;", 0, api.ErrType},
		{"if i { }", 0, api.ErrType}, {"while nil { }", 0, api.ErrType}, {"while b { i = b; }", 1, api.ErrType}, {"if b { i = 1; i = 2; } else { if b { i = 3; } else { while b { i = b; } } } b = i;", 6, api.ErrType}, {"if b { } else { } i = b;", 1, api.ErrType},
		{"if b { i = 1; while b { } } i = 2; i = b;", 4, api.ErrType}, {"while i { i = b; }", 0, api.ErrType}, {"if zz { }", 0, api.ErrName},
		{"return;", 0, api.ErrType}, {"return b;", 0, api.ErrType}, {"return nil;", 0, api.ErrType}, {"return zz;", 0, api.ErrName},
		{"clear();", 0, api.OK}, {"push(1);", 0, api.OK}, {"find(1, nil);", 0, api.OK}, {"zz();", 0, api.ErrName}, {"clear(1);", 0, api.ErrSize}, {"push();", 0, api.ErrSize}, {"push(b);", 0, api.ErrType}, {"push(nil);", 0, api.ErrType}, {"find(1, w);", 0, api.ErrType}, {"zz(yy + 1, b + 1);", 0, api.ErrName}, {"zz(b + 1);", 0, api.ErrType}, {"push(zz, 1);", 0, api.ErrName}, {"push(b, b);", 0, api.ErrSize}, {"length(r);", 0, api.ErrName}, {"find(b, i);", 0, api.ErrType},
		{"i = clear();", 0, api.ErrType}, {"push(clear());", 0, api.ErrType}, {"return find(1, nil).k;", 0, api.OK}, {"i = length(r);", 0, api.ErrName}, {"i = zz(b + 1);", 0, api.ErrType}, {"i = push(1, 2);", 0, api.ErrSize}, {"i = push(nil);", 0, api.ErrType}, {"i = clear(1);", 0, api.ErrSize},
	} {
		if c.index == -2 {
			continue
		}
		place := "fails"
		if c.err == api.OK {
			place = ""
		}
		wantCheck(t, proc(c.body), place, c.index, c.err)
	}
	wantCheck(t, with(t, "return;", "return 1;"), "clear", 1, api.ErrType)
	wantCheck(t, with(t, "return;", "return nil;"), "clear", 1, api.ErrType)
	wantCheck(t, with(t, "return c;", "return x;"), "push", 5, api.ErrType)
	wantCheck(t, with(t, "local r int", "local rr int"), "has", 3, api.ErrType)
	wantCheck(t, with(t, "proc has(c bool)", "proc has(d bool)"), "has", 0, api.ErrType)
}

func TestExpressions(t *testing.T) {
	for _, c := range []struct {
		old, new, place string
		err             api.Errno
	}{
		{"= 1 + length(this.n)", "= this.on", "length", api.ErrType}, {"= 1 + length(this.n)", "= this.n", "length", api.ErrType}, {"= 1 + length(this.n)", "= nil", "length", api.ErrType}, {"= 1 + length(this.n)", "= new T.k", "length", api.ErrState}, {"= 1 + length(this.n)", "= new V.k", "length", api.ErrState},
		{"= 1 + length(this.n)", "= depth(this.n)", "length", api.ErrType}, {"= 1 + length(this.n)", "= zz(this.n)", "length", api.ErrName}, {"= 1 + length(this.n)", "= length(this, this)", "length", api.ErrSize}, {"= 1 + length(this.n)", "= length()", "length", api.ErrSize}, {"= 1 + length(this.n)", "= length(1)", "length", api.ErrType}, {"= 1 + length(this.n)", "= push(1)", "length", api.ErrName}, {"= 1 + length(this.n)", "= k", "length", api.ErrName},
		{"this.n == nil or", "this.k or", "sorted", api.ErrType}, {"= c == length(r)", "= c", "counted", api.ErrType}, {"= c == length(r)", "= this.k == c", "counted", api.ErrName}, {"= c == length(r)", "= length(nil) == r", "counted", api.ErrType}, {"= c == length(r)", "= nil", "counted", api.ErrType},
		{"= if(this.on, this.k, 0)", "= this.on", "potential", api.ErrType}, {"= log(c)", "= log(this.k)", "potential", api.ErrName}, {"= log(c)", "= x", "potential", api.ErrType}, {"= log(c)", "= stop()", "potential", api.ErrName},
		{"= k + length(r)", "= kk", "push", api.ErrName}, {"= k + length(r)", "= p.k", "push", api.ErrName}, {"= k + length(r)", "= x", "push", api.ErrType}, {"= k + length(r)", "= new T.k", "push", api.ErrState}, {"= if(c, 1, 2)", "= c", "has", api.ErrType}, {"= if(c, 1, 2)", "= if(x, length(r), 1)", "", api.OK}, {"= if(c, 1, 2)", "= this.k", "has", api.ErrName}, {"= k + length(r)", "= push(k)", "push", api.ErrName},
	} {
		index := -1
		if c.err == api.OK {
			index = 0
		}
		wantCheck(t, with(t, c.old, c.new), c.place, index, c.err)
	}
}

// P11.1: the order of the errors. Each further error comes before all those that were made already.
func TestOrder(t *testing.T) {
	s := list
	for _, c := range []struct {
		old, new, place string
		index           int
		err             api.Errno
	}{
		{"= if(c, 1, 2)", "= c", "has", -1, api.ErrType}, {"= k + length(r)", "= kk", "push", -1, api.ErrName}, {"= log(c)", "= x", "potential", -1, api.ErrType}, {"= if(this.on, this.k, 0)", "= new T.k", "potential", -1, api.ErrState}, {"= c == length(r)", "= c", "counted", -1, api.ErrType}, {"this.k <= this.n.k", "this.z", "sorted", -1, api.ErrName},
		{"max(depth(this.u)", "max(depth()", "depth", -1, api.ErrSize}, {"= 1 + length(this.n)", "= x", "length", -1, api.ErrType}, {"return c < 1", "return 1", "stop", 0, api.ErrType}, {"push(r);", "push(b);", "has", 4, api.ErrName}, {"c = c + 1", "c = c + x", "push", 4, api.ErrType}, {"p.k = k", "p.k = x", "push", 1, api.ErrType},
		{"bound has", "bound push", "push", -1, api.ErrTwice}, {"bound push", "bound zz", "zz", -1, api.ErrName}, {"potential T", "potential V", "potential", -1, api.ErrName}, {"invariant counted", "invariant sorted", "sorted", -1, api.ErrTwice}, {"invariant sorted(T)", "invariant first(V)", "first", -1, api.ErrName}, {"measure depth(U)", "measure length(U)", "length", -1, api.ErrTwice}, {"measure length(T)", "measure length(V)", "length", -1, api.ErrName},
		{"proc stop()", "proc has()", "has", -1, api.ErrTwice}, {"from T) T", "from T) V", "find", -1, api.ErrName}, {"from T) V", "k T) V", "find", -1, api.ErrTwice}, {"proc push(k int) int", "proc push(k int) V", "push", -1, api.ErrName}, {"local p T", "local p V", "push", -1, api.ErrName}, {"local p V", "local k V", "push", -1, api.ErrTwice}, {"proc push(k int)", "proc push(k V)", "push", -1, api.ErrName},
		{"var x bool", "var x V", "x", -1, api.ErrName}, {"var c int", "var r V", "r", -1, api.ErrTwice}, {"t T; u U", "t T; t U", "U", -1, api.ErrTwice}, {"k int; n T;", "k int; n V;", "T", -1, api.ErrName}, {"type U", "type T", "T", -1, api.ErrTwice},
	} {
		if !strings.Contains(s, c.old) {
			t.Fatal(c.old)
		}
		s = strings.Replace(s, c.old, c.new, 1)
		wantCheck(t, s, c.place, c.index, c.err)
	}
}

// P11.2

func wantExpr(t *testing.T, proc, s, typ string, want api.Errno) {
	t.Helper()
	if r, err := typecheck.Expr(parse(t, list), proc, parseExpr(t, s)); r != typ || err != want {
		t.Errorf("Expr(%s, %s) = %q %v, want %q %v", proc, s, r, err, typ, want)
	}
}

func TestExpr(t *testing.T) {
	for _, c := range []struct {
		s, typ string
		err    api.Errno
	}{
		{"r.n.k + 1", "int", api.OK}, {"r == nil", "bool", api.OK}, {"if(r == nil, nil, r.n)", "T", api.OK}, {"nil.k", "", api.ErrType}, {"r.z", "", api.ErrName}, {"r + 1", "", api.ErrType},
		{"nil", "nil", api.OK}, {"true", "bool", api.OK}, {"7", "int", api.OK}, {"new U", "U", api.OK}, {"new U.t.n.on", "bool", api.OK}, {"new V", "", api.ErrName}, {"from", "T", api.OK}, {"k", "int", api.OK}, {"this", "", api.ErrName}, {"p", "", api.ErrName}, {"x", "bool", api.OK},
		{"find(k, nil)", "T", api.OK}, {"push(1)", "int", api.OK}, {"clear()", "", api.ErrType}, {"length(r)", "", api.ErrName},
		{"-k", "int", api.OK}, {"-x", "", api.ErrType}, {"-nil", "", api.ErrType}, {"log(k)", "int", api.OK}, {"log(r)", "", api.ErrType}, {"max(1, 2)", "int", api.OK}, {"min(1, x)", "", api.ErrType}, {"max(x, 1)", "", api.ErrType}, {"1 % 2", "int", api.OK}, {"x / 1", "", api.ErrType}, {"1 * nil", "", api.ErrType}, {"1 - 2", "int", api.OK},
		{"1 == 2", "bool", api.OK}, {"x != x", "bool", api.OK}, {"1 == x", "", api.ErrType}, {"nil == nil", "bool", api.OK}, {"nil != r", "bool", api.OK}, {"nil == 1", "", api.ErrType}, {"x == nil", "", api.ErrType}, {"r == new U", "", api.ErrType}, {"r == from", "bool", api.OK},
		{"1 < 2", "bool", api.OK}, {"x < x", "", api.ErrType}, {"1 <= nil", "", api.ErrType}, {"r < r", "", api.ErrType}, {"not x", "bool", api.OK}, {"not 1", "", api.ErrType}, {"x and 1", "", api.ErrType}, {"x or x", "bool", api.OK}, {"1 or x", "", api.ErrType}, {"x and x", "bool", api.OK},
		{"if(x, 1, 2)", "int", api.OK}, {"if(1, 1, 2)", "", api.ErrType}, {"if(x, 1, x)", "", api.ErrType}, {"if(x, r, nil)", "T", api.OK}, {"if(x, nil, nil)", "nil", api.OK}, {"if(x, nil, 1)", "", api.ErrType}, {"if(x, r, new U)", "", api.ErrType}, {"if(x, nil, r).k", "int", api.OK}, {"if(x, nil, nil).k", "", api.ErrType},
		{"zz + yy.z", "", api.ErrName}, {"(1 + x) + zz", "", api.ErrType}, {"zz + (1 + x)", "", api.ErrName}, {"find(1, nil, zz)", "", api.ErrName}, {"find(1)", "", api.ErrSize}, {"nil.z", "", api.ErrType},
	} {
		wantExpr(t, "find", c.s, c.typ, c.err)
	}
	// In has the parameter c, and the local variable r, hide the global variables.
	wantExpr(t, "has", "c", "bool", api.OK)
	wantExpr(t, "has", "r", "int", api.OK)
	wantExpr(t, "stop", "c", "int", api.OK)
	wantExpr(t, "stop", "r", "T", api.OK)
	wantExpr(t, "push", "p.n", "T", api.OK)
	for _, s := range []string{"zz", "length", "", "Push"} {
		wantExpr(t, s, "1 + x", "", api.ErrNone)
	}
	bad := parse(t, with(t, "return c;", "return x;"))
	if r, err := typecheck.Expr(bad, "zz", parseExpr(t, "1")); r != "" || err != api.ErrState {
		t.Error(r, err)
	}
	if r, err := typecheck.Expr(bad, "zz", api.Expr{}); r != "" || err != api.ErrArg {
		t.Error(r, err)
	}
	if r, err := typecheck.Expr(api.Desc{}, "push", parseExpr(t, "1")); r != "" || err != api.ErrArg {
		t.Error(r, err)
	}
}

// P11.3

func TestMeasure(t *testing.T) {
	d := parse(t, list)
	for _, c := range []struct {
		typ, s, want string
		err          api.Errno
	}{
		{"T", "this", "T", api.OK}, {"U", "this.t", "T", api.OK}, {"", "this", "", api.ErrName}, {"", "r", "T", api.OK}, {"T", "this.n.k + c", "int", api.OK}, {"T", "length(this)", "int", api.OK}, {"U", "length(this)", "", api.ErrType}, {"", "length(nil)", "int", api.OK}, {"", "length(r, r)", "", api.ErrSize}, {"", "push(1)", "", api.ErrName}, {"T", "new T", "", api.ErrState}, {"", "k", "", api.ErrName},
		{"", "nil", "nil", api.OK}, {"U", "depth(this.u) < 1 and x", "bool", api.OK}, {"", "length(zz)", "", api.ErrName}, {"", "length(1)", "", api.ErrType}, {"", "zz(new T)", "", api.ErrState}, {"V", "1 + x", "", api.ErrNone}, {"int", "1", "", api.ErrNone}, {"bool", "1", "", api.ErrNone}, {"nil", "1", "", api.ErrNone},
	} {
		if r, err := typecheck.Measure(d, c.typ, parseExpr(t, c.s)); r != c.want || err != c.err {
			t.Error(c, r, err)
		}
	}
	bad := parse(t, with(t, "= c == length(r)", "= c"))
	if r, err := typecheck.Measure(bad, "zz", parseExpr(t, "1")); r != "" || err != api.ErrState {
		t.Error(r, err)
	}
	if r, err := typecheck.Measure(bad, "zz", api.Expr{}); r != "" || err != api.ErrArg {
		t.Error(r, err)
	}
	if r, err := typecheck.Measure(api.Desc{}, "", parseExpr(t, "1")); r != "" || err != api.ErrArg {
		t.Error(r, err)
	}
}

// P11.4

func TestEntries(t *testing.T) {
	d := parse(t, list)
	l, err := typecheck.Entries(d)
	if err != api.OK || !slices.Equal(l, []string{"push", "clear", "has", "stop"}) {
		t.Error(l, err)
	}
	l[0] = "spoilt"
	if l, _ := typecheck.Entries(d); l[0] != "push" || d.Procs[0].Name != "push" {
		t.Error(l)
	}
	d = parse(t, "desc d { type T { } proc a(x T) { } proc b() T { return nil; } proc c(x int, y bool) { local t T; } proc d(x int, y T) int { return x; } }")
	if l, err := typecheck.Entries(d); err != api.OK || !slices.Equal(l, []string{"c"}) {
		t.Error(l, err)
	}
	if l, err := typecheck.Entries(parse(t, with(t, "return c;", "return x;"))); err != api.ErrState || len(l) != 0 {
		t.Error(l, err)
	}
	if l, err := typecheck.Entries(api.Desc{}); err != api.ErrArg || len(l) != 0 {
		t.Error(l, err)
	}
}

// P11.5

func TestConsequences(t *testing.T) {
	d := parse(t, list)
	for i := range d.Invariants {
		e := d
		e.Invariants = slices.Delete(slices.Clone(d.Invariants), i, i+1)
		e.Potentials = slices.Delete(slices.Clone(d.Potentials), i, i+1)
		e.Bounds = slices.Delete(slices.Clone(d.Bounds), i, i+1)
		if p, _, err := typecheck.Check(e); err != api.OK {
			t.Error(p, err)
		}
	}
	for _, p := range d.Procs {
		var walk func(l []api.Stmt)
		walk = func(l []api.Stmt) {
			for _, s := range l {
				for _, e := range s.E {
					if s.Op != api.SCall {
						parts(t, d, p.Name, e)
					}
				}
				walk(s.L)
				walk(s.Else)
			}
		}
		walk(p.Body)
	}
}

// parts checks that the parts of an expression have types, and that others of the same type may stand there.
func parts(t *testing.T, d api.Desc, proc string, e api.Expr) {
	t.Helper()
	typ, err := typecheck.Expr(d, proc, e)
	if err != api.OK {
		t.Fatal(proc, e, err)
	}
	for i, part := range e.L {
		parts(t, d, proc, part)
		partType, _ := typecheck.Expr(d, proc, part)
		other := map[string]string{"int": "1 + 2", "bool": "1 < 2", "T": "new T", "U": "new U", "nil": "nil"}[partType]
		changed := e
		changed.L = slices.Clone(e.L)
		changed.L[i] = parseExpr(t, other)
		if r, err := typecheck.Expr(d, proc, changed); err != api.OK || r != typ || !ast.ValidExpr(changed) {
			t.Fatal(proc, changed, r, err)
		}
	}
}
