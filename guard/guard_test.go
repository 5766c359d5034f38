package guard_test

import (
	"slices"
	"strconv"
	"strings"
	"testing"

	"heartwood/api"
	"heartwood/ast"
	"heartwood/eval"
	"heartwood/guard"
	"heartwood/heap"
	"heartwood/invariant"
	"heartwood/parser"
	"heartwood/typecheck"
	"heartwood/verify"
)

func parse(t *testing.T, s string) api.Desc {
	t.Helper()
	d, place, err := parser.Parse(s)
	if err != api.OK {
		t.Fatal(s, place, err)
	}
	return d
}

const listText = `desc list {
type L { k int; next L }
var r L
var c int
proc push(k int) int {
	local x L;
	x = new L;
	x.k = k;
	x.next = r;
	r = x;
	c = c + 1;
	return k;
}
proc skip() {
	c = c + 1;
}
proc fail(n int) {
	c = n;
	r.k = 100;
	c = 1 / 0;
}
proc key(x L) int {
	return x.k;
}
proc even() {
	c = c + 2;
}
measure length(L) nil 0 = 1 + length(this.next)
invariant sorted(L) = this.next == nil or this.k <= this.next.k
invariant counted = c == length(r)
invariant small(L) = this.k < 50
invariant positive = 0 <= c
}
`

func list(t *testing.T) api.Desc { return parse(t, listText) }

func node(typ int, f ...int) api.Node { return api.Node{Type: typ, F: f} }

func mem(globals []int, nodes ...api.Node) api.Mem { return api.Mem{Globals: globals, Nodes: nodes} }

func two() api.Mem { return mem([]int{1, 2}, node(0, 3, 2), node(0, 7, 0)) }

func call(proc string, args ...int) api.Call { return api.Call{Proc: proc, Args: args} }

func same(a, b api.Mem) bool {
	return slices.Equal(a.Globals, b.Globals) && slices.EqualFunc(a.Nodes, b.Nodes, func(x, y api.Node) bool { return x.Type == y.Type && slices.Equal(x.F, y.F) })
}

func isZero(m api.Mem) bool { return len(m.Globals) == 0 && len(m.Nodes) == 0 }

func violation(name string, n int) api.Violation { return api.Violation{Name: name, Node: n} }

// P18.1

func TestRun(t *testing.T) {
	d := list(t)
	all := []string{"sorted", "counted", "small", "positive"}
	for _, c := range []struct {
		call api.Call
		invs []string
		want api.Violation
	}{
		{call("push", 1), all, api.Violation{}}, {call("push", 3), all, api.Violation{}}, {call("push", 5), all, violation("sorted", 3)}, {call("push", 5), all[1:], api.Violation{}}, {call("push", 5), []string{"counted", "sorted"}, violation("sorted", 3)}, {call("push", 99), []string{"small", "sorted"}, violation("small", 3)}, {call("push", 99), all, violation("sorted", 3)}, {call("push", 5), nil, api.Violation{}},
		{call("skip"), all, violation("counted", 0)}, {call("skip"), []string{"sorted"}, api.Violation{}}, {call("fail", 9), all, api.Violation{}}, {call("fail", 9), nil, api.Violation{}}, {call("key", 2), all, api.Violation{}}, {call("key", 0), all, api.Violation{}},
	} {
		m := two()
		plain, after, _ := eval.Run(d, m, c.call, 100)
		if c.want != (api.Violation{}) {
			plain.Fault, plain.Value = api.ErrBroken, 0
		}
		o, r, v, err := guard.Run(d, m, c.call, c.invs, 100)
		if err != api.OK || o != plain || !same(r, after) || v != c.want || !same(m, two()) {
			t.Error(c, o, r, v, err)
		}
		r.Globals[0], r.Nodes[0].F[0] = 99, 99
		if !same(m, two()) {
			t.Error("the result shares memory with the argument")
		}
	}
	// The nodes in the order of the search; an invariant that faults does not hold; nodes that are not reached do not matter.
	m := mem([]int{3, 3}, node(0, 60, 0), node(0, 70, 1), node(0, 1, 2), node(0, 99, 0))
	if _, _, v, err := guard.Run(d, m, call("key", 1), []string{"small"}, 100); v != violation("small", 2) || err != api.OK {
		t.Error(v, err)
	}
	m.Nodes[0].F[1] = 2
	if o, _, v, err := guard.Run(d, m, call("key", 1), []string{"counted"}, 100); v != violation("counted", 0) || err != api.OK || o.Fault != api.ErrBroken {
		t.Error(v, err)
	}
	// Only the nodes of the type of the invariant are asked.
	types := parse(t, "desc d { type A { b B; k int } type B { k bool; a A } var r A proc p() { } invariant odd(B) = this.k invariant low(A) = this.k < 5 }")
	for _, c := range []struct {
		m    api.Mem
		want api.Violation
	}{{mem([]int{1}, node(0, 2, 3), node(1, 1, 3), node(0, 0, 4)), api.Violation{}}, {mem([]int{1}, node(0, 2, 3), node(1, 0, 3), node(0, 0, 7)), violation("odd", 2)}, {mem([]int{1}, node(0, 2, 3), node(1, 1, 3), node(0, 0, 7)), violation("low", 3)}} {
		if _, _, v, err := guard.Run(types, c.m, call("p"), []string{"odd", "low"}, 9); v != c.want || err != api.OK {
			t.Error(c, v, err)
		}
	}
	if o, _, v, err := guard.Run(d, two(), call("push", 9), []string{"sorted"}, 3); v != (api.Violation{}) || err != api.OK || o.Fault != api.ErrFuel {
		t.Error(o, v, err)
	}
}

func wantRunError(t *testing.T, d api.Desc, m api.Mem, c api.Call, invs []string, fuel int, want api.Errno) {
	t.Helper()
	if o, r, v, err := guard.Run(d, m, c, invs, fuel); err != want || o != (api.Outcome{}) || !isZero(r) || v != (api.Violation{}) {
		t.Error(o, r, v, err)
	}
	if l, r, v, err := guard.Script(d, m, []api.Call{c}, invs, fuel); err != want || len(l) != 0 || !isZero(r) || v != (api.Violation{}) {
		t.Error(l, r, v, err)
	}
}

func TestErrors(t *testing.T) {
	d := list(t)
	twice := []string{"sorted", "zz", "sorted"}
	for _, bad := range []api.Desc{{}, parse(t, "desc d { proc p() { x = 1; } }")} {
		wantRunError(t, bad, api.Mem{}, call("zz"), twice, -1, api.ErrArg)
	}
	for _, m := range []api.Mem{{}, mem([]int{1, 0}), mem([]int{0, 0}, node(1))} {
		wantRunError(t, d, m, call("zz"), twice, -1, api.ErrArg)
	}
	wantRunError(t, d, two(), call("zz"), twice, -1, api.ErrRange)
	wantRunError(t, d, two(), call("zz"), twice, api.MaxFuel+1, api.ErrRange)
	wantRunError(t, d, two(), call("zz"), twice, 0, api.ErrName)
	wantRunError(t, d, two(), call("push"), []string{"sorted", "sorted", ""}, 0, api.ErrName)
	wantRunError(t, d, two(), call("push"), []string{"length"}, 0, api.ErrName)
	wantRunError(t, d, two(), call("zz"), []string{"sorted", "counted", "sorted"}, 0, api.ErrTwice)
	wantRunError(t, d, two(), call("zz"), []string{"counted", "counted"}, 0, api.ErrTwice)
	wantRunError(t, d, two(), call("zz", 1), []string{"sorted"}, 0, api.ErrName)
	wantRunError(t, d, two(), call("push"), nil, 0, api.ErrSize)
	wantRunError(t, d, two(), call("key", 3), []string{"sorted"}, 0, api.ErrType)
	if _, _, _, err := guard.Run(d, two(), call("skip"), nil, api.MaxFuel); err != api.OK {
		t.Error(err)
	}
}

// P18.2

func TestScript(t *testing.T) {
	d := list(t)
	start, _ := heap.New(d)
	want := func(l []api.Call, invs []string, count int, v api.Violation) {
		t.Helper()
		m := start
		var outcomes []api.Outcome
		for _, c := range l[:count] {
			o, r, w, err := guard.Run(d, m, c, invs, 100)
			if err != api.OK || (w != api.Violation{}) != (len(outcomes) == count-1 && v != api.Violation{}) {
				t.Fatal(c, o, w, err)
			}
			outcomes, m = append(outcomes, o), r
		}
		got, r, w, err := guard.Script(d, start, l, invs, 100)
		if err != api.OK || !slices.Equal(got, outcomes) || !same(r, m) || w != v {
			t.Error(got, r, w, err)
		}
	}
	l := []api.Call{call("push", 9), call("push", 4), call("key", 0), call("push", 4), call("push", 6), call("push", 1), call("zz")}
	want(l, []string{"sorted", "counted"}, 5, violation("sorted", 4))
	want(l[:6], []string{"counted"}, 6, api.Violation{})
	want(l[:6], nil, 6, api.Violation{})
	want(l[:1], []string{"sorted", "counted", "small", "positive"}, 1, api.Violation{})
	want(nil, []string{"sorted"}, 0, api.Violation{})
	// After a fault, the next call begins with the memory that is left: here with a key of 100.
	want([]api.Call{call("push", 4), call("fail", 7), call("even"), call("key", 1)}, []string{"small"}, 3, violation("small", 1))
	fails := func(l []api.Call, invs []string, fuel int, want api.Errno) {
		t.Helper()
		if got, r, v, err := guard.Script(d, start, l, invs, fuel); err != want || len(got) != 0 || !isZero(r) || v != (api.Violation{}) {
			t.Error(got, r, v, err)
		}
	}
	fails(l, []string{"counted"}, 100, api.ErrName)
	fails([]api.Call{call("push", 1), call("key", 2), call("zz")}, nil, 100, api.ErrType)
	fails([]api.Call{call("push", 1), call("key"), call("zz")}, nil, 100, api.ErrSize)
	many := slices.Repeat([]api.Call{call("key", 0)}, api.MaxOps+1)
	fails(many, []string{"zz"}, 100, api.ErrFull)
	fails(many, []string{"zz"}, -1, api.ErrRange)
	if got, _, _, err := guard.Script(d, start, many[1:], []string{"sorted"}, 100); err != api.OK || len(got) != api.MaxOps {
		t.Error(len(got), err)
	}
	m := two()
	_, r, _, _ := guard.Script(d, m, nil, nil, 0)
	r.Globals[0], r.Nodes[0].F[0] = 99, 99
	if !same(m, two()) {
		t.Error("the result shares memory with the argument")
	}
}

// P18.3

func TestNeeded(t *testing.T) {
	want := func(s string, want ...string) {
		t.Helper()
		d := parse(t, s)
		l, err := guard.Needed(d)
		if err != api.OK || !slices.Equal(l, want) {
			t.Error(s, l, err)
		}
		var expected []string
		entries, _ := typecheck.Entries(d)
		for _, inv := range d.Invariants {
			for _, p := range entries {
				if v, err := verify.Prove(d, p, inv.Name); err != api.OK || v.Kind != api.Proved {
					expected = append(expected, inv.Name)
					break
				}
			}
		}
		if !slices.Equal(l, expected) {
			t.Error(l, expected)
		}
	}
	want("desc d { }")
	want("desc d { var c int invariant a = c < 3 invariant b = c * 2 < 3 }")
	want("desc d { type T { lo int; hi int; t T } var r T var c int proc low() { r.lo = r.lo - 1; } proc both() { r.hi = r.hi + 1; } proc inner(x T) { x.lo = x.hi + 1; } proc made() T { return r; } invariant a(T) = this.lo <= this.hi invariant b(T) = this.lo < 5 invariant c2(T) = this.hi < 5 invariant d2 = c == 0 invariant e(T) = this.t == nil }", "c2", "e")
	want(listText, "sorted", "counted", "small", "positive")
	many := strings.Repeat("if c < 1 { } ", 9)
	want("desc d { var c int proc p() { "+many+" } invariant a = c < 3 }", "a")
	for _, d := range []api.Desc{{}, parse(t, "desc d { proc p() { x = 1; } }")} {
		if l, err := guard.Needed(d); err != api.ErrArg || len(l) != 0 {
			t.Error(l, err)
		}
	}
}

// P18.4

const generated = `proc measure_length(n L) int {
	if n == nil {
		return 0;
	}
	return 1 + measure_length(n.next);
}
`

const sortedProcs = `proc visit_L(n L) bool {
	if n == nil {
		return true;
	}
	if not (n.next == nil or n.k <= n.next.k) {
		return false;
	}
	if not visit_L(n.next) {
		return false;
	}
	return true;
}
proc check_sorted() bool {
	if not visit_L(r) {
		return false;
	}
	return true;
}
`

const countedProcs = `proc check_counted() bool {
	return c == measure_length(r);
}
`

func TestGenerate(t *testing.T) {
	at := strings.Index(listText, "measure length")
	for inv, procs := range map[string]string{"sorted": generated + sortedProcs, "counted": generated + countedProcs} {
		d := list(t)
		g, err := guard.Generate(d, inv)
		s, _ := ast.Text(g)
		if want := listText[:at] + procs + listText[at:]; err != api.OK || s != want {
			t.Error(s, err)
		}
		if _, _, err := typecheck.Check(g); err != api.OK {
			t.Error(err)
		}
		spoil(g)
		if !ast.Same(d, list(t)) {
			t.Error("the result shares memory with the argument")
		}
	}
	s := `desc d {
type A { b B; n int; a A }
type E { }
type B { x bool; a A }
var n A
var n_ int
var e E
proc p() {
}
measure m(B) nil -5 = if(this.x, w(this.a), m(nil)) + n_
measure w(A) nil 7 = this.n + w(n)
invariant i(A) = this != this.a and m(this.b) < w(this)
potential A = 1
potential = m(nil)
bound p = w(n)
}
`
	want := `proc measure_m(n__ B) int {
	if n__ == nil {
		return -5;
	}
	return if(n__.x, measure_w(n__.a), measure_m(nil)) + n_;
}
proc measure_w(n__ A) int {
	if n__ == nil {
		return 7;
	}
	return n__.n + measure_w(n);
}
proc visit_A(n__ A) bool {
	if n__ == nil {
		return true;
	}
	if not (n__ != n__.a and measure_m(n__.b) < measure_w(n__)) {
		return false;
	}
	if not visit_B(n__.b) {
		return false;
	}
	if not visit_A(n__.a) {
		return false;
	}
	return true;
}
proc visit_E(n__ E) bool {
	if n__ == nil {
		return true;
	}
	return true;
}
proc visit_B(n__ B) bool {
	if n__ == nil {
		return true;
	}
	if not visit_A(n__.a) {
		return false;
	}
	return true;
}
proc check_i() bool {
	if not visit_A(n) {
		return false;
	}
	if not visit_E(e) {
		return false;
	}
	return true;
}
`
	d := parse(t, s)
	g, err := guard.Generate(d, "i")
	got, _ := ast.Text(g)
	at = strings.Index(s, "measure m")
	if err != api.OK || got != s[:at]+want+s[at:] {
		t.Error(got, err)
	}
	spoil(g)
	if !ast.Same(d, parse(t, s)) {
		t.Error("the result shares memory with the argument")
	}
}

func spoil(d api.Desc) {
	var expr func(e *api.Expr)
	expr = func(e *api.Expr) {
		for i := range e.L {
			expr(&e.L[i])
		}
		e.S, e.Op = "spoilt", 99
	}
	var stmts func(l []api.Stmt)
	stmts = func(l []api.Stmt) {
		for i := range l {
			for k := range l[i].E {
				expr(&l[i].E[k])
			}
			stmts(l[i].L)
			stmts(l[i].Else)
			l[i].S = "spoilt"
		}
	}
	fields := func(l []api.Field) {
		for i := range l {
			l[i] = api.Field{}
		}
	}
	for i := range d.Types {
		fields(d.Types[i].Fields)
		d.Types[i].Name = "spoilt"
	}
	fields(d.Globals)
	for i := range d.Procs {
		fields(d.Procs[i].Params)
		fields(d.Procs[i].Locals)
		stmts(d.Procs[i].Body)
		d.Procs[i].Name = "spoilt"
	}
	for i := range d.Measures {
		expr(&d.Measures[i].X)
	}
	for i := range d.Invariants {
		expr(&d.Invariants[i].X)
	}
	for i := range d.Potentials {
		expr(&d.Potentials[i].X)
	}
	for i := range d.Bounds {
		expr(&d.Bounds[i].X)
	}
}

func wantNone(t *testing.T, s, inv string, want api.Errno) {
	t.Helper()
	if g, err := guard.Generate(parse(t, s), inv); err != want || g.Name != "" || len(g.Procs) != 0 {
		t.Errorf("%.100s: %v, want %v", s, err, want)
	}
}

func TestGenerateErrors(t *testing.T) {
	for _, d := range []api.Desc{{}, parse(t, "desc d { proc p() { x = 1; } }")} {
		if g, err := guard.Generate(d, "zz"); err != api.ErrArg || g.Name != "" {
			t.Error(err)
		}
	}
	wantNone(t, listText, "zz", api.ErrNone)
	wantNone(t, listText, "length", api.ErrNone)
	name := func(n int) string { return strings.Repeat("x", n) }
	fits := func(s, inv string) {
		t.Helper()
		g, err := guard.Generate(parse(t, s), inv)
		if _, _, typed := typecheck.Check(g); err != api.OK || typed != api.OK {
			t.Errorf("%.100s: %v %v", s, err, typed)
		}
	}
	with := func(typ, measure, inv string) string {
		return "desc d { type " + typ + " { } proc p() { } measure " + measure + "(" + typ + ") nil 0 = 1 invariant " + inv + "(" + typ + ") = true invariant plain = true }"
	}
	fits(with(name(34), name(32), name(34)), name(34))
	wantNone(t, with(name(35), name(32), name(34)), name(34), api.ErrName)
	wantNone(t, with(name(34), name(33), name(34)), name(34), api.ErrName)
	wantNone(t, with(name(34), name(32), name(35)), name(35), api.ErrName)
	// For an invariant without a type there are no visits; but the measures are carried over.
	fits(with(name(40), name(32), name(40)), "plain")
	wantNone(t, with(name(40), name(33), name(40)), "plain", api.ErrName)
	for _, p := range []string{"measure_m", "visit_T", "check_i"} {
		s := "desc d { type T { } proc " + p + "() { } measure m(T) nil 0 = 1 invariant i(T) = true invariant j = true }"
		wantNone(t, s, "i", api.ErrTwice)
		if p == "measure_m" {
			wantNone(t, s, "j", api.ErrTwice)
		} else {
			fits(s, "j")
		}
		wantNone(t, strings.Replace(s, "measure m(", "measure "+name(40)+"(T) nil 0 = 1 measure m(", 1), "i", api.ErrName)
	}
	procs := func(n int) string {
		s := ""
		for i := range n {
			s += "proc p" + strconv.Itoa(i) + "() { } "
		}
		return "desc d { type T { } type U { } " + s + "measure m(T) nil 0 = 1 invariant i(T) = true invariant j = true }"
	}
	fits(procs(36), "i")
	wantNone(t, procs(37), "i", api.ErrFull)
	fits(procs(38), "j")
	wantNone(t, procs(39), "j", api.ErrFull)
	wantNone(t, strings.Replace(procs(40), "proc p3(", "proc check_i(", 1), "i", api.ErrTwice)
	deep := func(n int, typ string) string {
		return "desc d { type T { } invariant i" + typ + " = " + strings.Repeat("not ", n) + "true }"
	}
	fits(deep(58, "(T)"), "i")
	wantNone(t, deep(59, "(T)"), "i", api.ErrFull)
	fits(deep(59, ""), "i")
	wide := func(n int) string {
		parts := slices.Repeat([]string{"true"}, n)
		for len(parts) > 1 {
			var next []string
			for i := 0; i+1 < len(parts); i += 2 {
				next = append(next, "("+parts[i]+" and "+parts[i+1]+")")
			}
			if len(parts)%2 == 1 {
				next = append(next, parts[len(parts)-1])
			}
			parts = next
		}
		return parts[0]
	}
	fits("desc d { type T { } invariant i(T) = "+wide(500)+" }", "i")
	fits("desc d { invariant i = not "+wide(500)+" }", "i")
	wantNone(t, "desc d { type T { } invariant i(T) = not "+wide(500)+" }", "i", api.ErrFull)
}

// P18.5: the generated description says what the invariants are, for memories that are trees.
func TestGeneratedChecks(t *testing.T) {
	d := parse(t, `desc d {
type N { k int; l N; r N }
var t N
var c int
var s N
measure size(N) nil 0 = 1 + size(this.l) + size(this.r)
measure least(N) nil 99 = min(this.k, min(least(this.l), least(this.r)))
invariant heap(N) = this.k < least(this.l) and this.k < least(this.r)
invariant counted = c == size(t) + size(s)
invariant child(N) = this.l.k < this.k
invariant part(N) = 12 / this.k < size(this)
}`)
	n := numbers(3)
	seen := map[int]int{}
	for range 400 {
		m := mem([]int{0, n.below(5), 0})
		free := [][2]int{{0, 0}, {0, 2}}
		for range n.below(7) {
			m.Nodes = append(m.Nodes, node(0, n.below(9), 0, 0))
			at := len(m.Nodes)
			i := n.below(len(free))
			if f := free[i]; f[0] == 0 {
				m.Globals[f[1]] = at
			} else {
				m.Nodes[f[0]-1].F[f[1]] = at
			}
			free[i] = [2]int{at, 1}
			free = append(free, [2]int{at, 2})
		}
		if tree, _, err := heap.Tree(d, m); !tree || err != api.OK {
			t.Fatal(m)
		}
		for _, inv := range d.Invariants {
			seen[checkGenerated(t, d, m, inv)]++
		}
	}
	if seen[0] < 100 || seen[1] < 100 || seen[2] < 100 {
		t.Error(seen)
	}
}

// checkGenerated returns 1 if an invariant holds, 0 if it is false first, and 2 if it faults first.
func checkGenerated(t *testing.T, d api.Desc, m api.Mem, inv api.Invariant) int {
	t.Helper()
	g, err := guard.Generate(d, inv.Name)
	if err != api.OK {
		t.Fatal(err)
	}
	want := 1
	reached, _ := heap.Reachable(d, m)
	if inv.Type == "" {
		reached = []int{0}
	}
	for _, at := range reached {
		if n, err := invariant.Expr(d, m, inv.X, at); err != api.OK || n == 0 {
			want = 0
			if err != api.OK {
				want = 2
			}
			break
		}
	}
	o, after, err := eval.Run(g, m, call("check_"+inv.Name), api.MaxFuel)
	if err != api.OK || !same(after, m) || want == 2 && o.Fault == api.OK || want < 2 && (o.Fault != api.OK || o.Value != want) {
		t.Fatal(inv.Name, m, o, want)
	}
	return want
}

// numbers yields numbers by a fixed rule.
type numbers int

func (n *numbers) below(limit int) int {
	*n = *n * 48271 % 2147483647
	return int(*n) % limit
}

// P18.5: what needs no check never fails.
func TestUnneededChecksNeverFail(t *testing.T) {
	d := parse(t, "desc d { type T { lo int; hi int; t T } var r T var c int proc low(n int) { if n < r.lo { r.lo = n; } } proc high(n int) { if r.hi < n { r.hi = n; } else { r.hi = r.hi + 1; } } proc push(n int) { local x T; x = new T; x.lo = n; x.hi = n; x.t = r; r = x; } proc swap() { local x T; x = r.t; r.lo = x.lo; r.hi = x.hi; r = x; } invariant a(T) = this.lo <= this.hi invariant b = c == 0 }")
	if l, err := guard.Needed(d); err != api.OK || len(l) != 0 {
		t.Fatal(l, err)
	}
	n := numbers(9)
	for range 50 {
		var l []api.Call
		for range 30 {
			l = append(l, []api.Call{call("low", n.below(20)-10), call("high", n.below(20)-10), call("push", n.below(20)-10), call("swap")}[n.below(4)])
		}
		start, _ := heap.New(d)
		got, m, v, err := guard.Script(d, start, l, []string{"a", "b"}, 1000)
		want, plain, _ := eval.Script(d, start, l, 1000)
		if err != api.OK || v != (api.Violation{}) || !slices.Equal(got, want) || !same(m, plain) {
			t.Fatal(l, v, err)
		}
	}
}
