package verify_test

import (
	"slices"
	"strconv"
	"strings"
	"testing"

	"heartwood/api"
	"heartwood/eval"
	"heartwood/heap"
	"heartwood/invariant"
	"heartwood/parser"
	"heartwood/verify"
)

func parse(t *testing.T, s string) api.Desc {
	t.Helper()
	d, place, err := parser.Parse(s)
	if err != api.OK {
		t.Fatal(s, place, err)
	}
	return d
}

const head = "desc d { type T { lo int; hi int; n T; u U; on bool } type U { k int; t T } var r T var c int var m int var b bool "

// with returns a description with a procedure p, and an invariant i.
func with(t *testing.T, params, body, inv string) api.Desc {
	return parse(t, head+"proc p("+params+") { "+body+" } invariant i"+inv+" }")
}

const interval = "(T) = this.lo <= this.hi"

// P17.1

func TestSimpleInvariants(t *testing.T) {
	for inv, want := range map[string]bool{
		"(T) = this.lo <= this.hi": true, "(T) = this.lo < 5": true, "(T) = 5 == this.lo + -3": true, "(T) = this.lo - 1000 < this.hi + 1000 and this.lo == this.lo and 1 < 2": true, "(T) = this.lo < 1 and (this.hi < 2 and this.lo == 3)": true, " = c < m": true, " = c == 3 and m - 1 <= c + 7": true, " = 1 == 1": true, "(U) = this.k < this.k": true,
		"(T) = this.lo <= 1001": false, "(T) = this.lo <= -1001": false, "(T) = this.lo + 1001 <= 2": false, "(T) = this.lo <= 1000": true, "(T) = 1 + this.lo <= 2": false, "(T) = this.lo + this.hi <= 2": false, "(T) = this.lo + 1 + 1 <= 2": false, "(T) = this.lo * 2 < 4": false, "(T) = -this.lo < 4": false, "(T) = this.lo < --4": false, "(T) = this.lo != 4": false, "(T) = this.lo < c": false, "(T) = this.n.lo < 3": false, "(T) = r.lo < 3": false,
		"(T) = this.n == nil": false, "(T) = this.on": false, "(T) = this.on == true": false, "(T) = true": false, "(T) = this.lo < 3 or this.hi < 3": false, "(T) = not (this.lo < 3)": false, "(T) = this.lo < 3 and this.on": false, "(T) = max(this.lo, 1) < 3": false, "(T) = if(this.on, 1, 2) < 3": false, " = r.lo < 3": false, " = b": false, " = b == b": false, " = r == nil": false, " = c < 3 and m < 4 or c < 5": false, "(T) = this.lo < 2 - 1": false,
	} {
		got, err := verify.Simple(with(t, "", "", inv), "p", "i")
		if got != want || err != api.OK {
			t.Error(inv, got, err)
		}
	}
}

func TestSimpleProcedures(t *testing.T) {
	for body, want := range map[string]bool{
		"": true, "return;": true, "c = 1;": true, "c = i + 1; i = c - -1000; r = nil; r = x; x = r.n; r = new T;": true, "x.lo = x.hi + 3; x.n = x.n.n; x.n.u = new U; r.n.n = r;": true, "if true { } else { c = 2; }": true, "if not (i < 3 and x.lo <= c or false) { if x == nil { } }": true, "if x.n != r.n { if x.lo != 3 { } if nil == nil { } }": true, "if c + 1 == i - 1 { c = i; }": true,
		"c = 1001;": false, "c = 1 + i;": false, "c = i + i;": false, "c = -i;": false, "c = i * 1;": false, "c = i + 1 + 1;": false, "c = max(i, 1);": false, "b = true;": false, "b = i < 3;": false, "b = b;": false, "x.on = true;": false, "if b { }": false, "if x.on { }": false, "if b == b { }": false, "if true == false { }": false, "while true { }": false, "if false { while false { } }": false, "p(1, nil);": false, "r = if(true, x, x);": false, "c = new T.lo;": false, "new T.lo = 3;": false, "if new T == nil { }": false, "if i < i * 2 { }": false, "c = log(1);": false, "if 1 < 2 { } else { c = i % 2; }": false, "if b and true { }": false, "if true and b { }": false, "if b or true { }": false, "if true or b { }": false, "if not b { }": false, "if i * 2 < i { }": false, "if i * 2 <= i { }": false, "if i <= i * 2 { }": false, "if i * 2 == i { }": false, "if i == i * 2 { }": false, "if i * 2 != i { }": false, "if nil == new T { }": false, "if new T != x { }": false, "new T.n.lo = 1;": false, "c = 1000; c = -1000;": true,
	} {
		got, err := verify.Simple(with(t, "i int, x T", body, interval), "p", "i")
		if got != want || err != api.OK {
			t.Error(body, got, err)
		}
		d := with(t, "i int, x T", body, " = b")
		if got, err := verify.Simple(d, "p", "i"); got || err != api.OK {
			t.Error(body, got, err)
		}
		if _, err := verify.Paths(d, "p"); want && err != api.OK || !want && err != api.ErrShape {
			t.Error(body, err)
		}
	}
	d := parse(t, head+"proc p(x T) T { return x.n; } proc q(i int) bool { return i < 3 and not (c == 1); } proc n() T { return new T; } proc t() int { return c + 3; } proc f() bool { return b; } proc g() int { return c * 2; } proc e() bool { return true; } invariant i = c < m }")
	for proc, want := range map[string]bool{"p": true, "q": true, "n": true, "t": true, "f": false, "g": false, "e": true} {
		if got, err := verify.Simple(d, proc, "i"); got != want || err != api.OK {
			t.Error(proc, got, err)
		}
	}
	// A local variable hides a global one, whose type is another one.
	hiding := parse(t, head+"proc p(b int) { local r int; r = b + 1; c = r; } proc q() { local c T; c.lo = 1; } invariant i = c < m }")
	for _, proc := range []string{"p", "q"} {
		if got, err := verify.Simple(hiding, proc, "i"); !got || err != api.OK {
			t.Error(proc, got, err)
		}
	}
}

// P17.2

func wantPaths(t *testing.T, params, body, want string) {
	t.Helper()
	l, err := verify.Paths(with(t, params, body, interval), "p")
	var s []string
	for _, path := range l {
		text := ""
		for _, c := range path {
			text += strconv.Itoa(c)
		}
		s = append(s, text)
	}
	if err != api.OK || strings.Join(s, " ") != want || len(l) == 0 && want != "" {
		t.Errorf("Paths(%s) = %v %v, want %s", body, s, err, want)
	}
}

func TestPaths(t *testing.T) {
	wantPaths(t, "x T", "x.lo = x.lo - 1;", "1")
	wantPaths(t, "x T", "", "")
	wantPaths(t, "i int", "if i < 3 { c = 1; }", "0 1")
	wantPaths(t, "i int", "if i <= 3 and c < i { c = 1; }", "0 10 11")
	wantPaths(t, "i int", "if i <= 3 or c < i { c = 1; }", "00 01 1")
	wantPaths(t, "i int", "if i == 3 { c = 1; } if i != c { }", "00 01 02 10 11 12 20 21 22")
	wantPaths(t, "x T, y T", "if x == y { c = 1; }", "00 01 10 11 12")
	wantPaths(t, "x T, y U", "if x == nil { c = 1; } if y == nil { c = 2; }", "00 01 10 11")
	wantPaths(t, "x T, y T", "x.lo = y.lo;", "11 12")
	wantPaths(t, "x T, y T", "if y == nil { return; } x.lo = y.lo;", "0 11 12")
	wantPaths(t, "x T", "x = x.n; x = x.n;", "11 12")
	wantPaths(t, "x T", "x = x.n; x = x.n; c = x.lo;", "11 121 122 123")
	wantPaths(t, "x T", "x.lo = 1; x.hi = 2; r = x; r.lo = 3;", "1")
	wantPaths(t, "x T", "x.n = r.n;", "11 12")
	wantPaths(t, "", "r.n = r;", "1")
	wantPaths(t, "", "if nil == nil { r = nil; } if r == nil { return; } c = r.lo;", "")
	wantPaths(t, "", "if nil != nil { c = 1; } else { r = new T; } if r == nil { return; } r.lo = 1; if r.n == nil { } if r.lo < 3 { }", "0 1")
	wantPaths(t, "x T", "r = new T; r.n = x; if x == r { } if r.n.lo < 3 { }", "10 11")
	wantPaths(t, "x T, y T", "local z T; z = x; if z == nil { return; } if x == nil { c = 1; } x.n = y; if z.n == y { }", "0 10 11 12")
	wantPaths(t, "x T", "x.n.lo = x.u.k; if x.u.t == x { }", "1110 1111 1112 1120 1121 1122 1123")
	wantPaths(t, "", "local x T; x.lo = 1;", "")
	wantPaths(t, "i int", "if true { c = i; } if false { if i < 3 { } } if not true or not (i < 3) { }", "0 1")
	wantPaths(t, "i int", "if i == 3 and c < 4 { }", "00 01 1 2")
	wantPaths(t, "i int", "if i == 3 or c < 4 { }", "0 10 11 20 21")
	wantPaths(t, "i int", "if true { } else { if i < 3 { } }", "")
	wantPaths(t, "i int", "if false { if i < 3 { } }", "")
	wantPaths(t, "i int", "if i != 3 { if c < 4 { } }", "0 10 11 20 21")
	wantPaths(t, "i int", "if not (i < 3) { if c == 4 { } }", "00 01 02 1")
	// A return comes before what would fault.
	wantPaths(t, "x T, i int", "if i < 0 { return; } x.lo = 1; return; x.hi = 2;", "01 1")
	// In an SPut the node is resolved after the value was evaluated.
	wantPaths(t, "x T, y U", "x.lo = y.k; if x == nil { }", "11")
}

func TestPathsOfReturn(t *testing.T) {
	d := parse(t, head+"proc p(x T, y T) bool { return x == y or c < 3; } proc q(x T) T { return x.n.n; } proc n() T { return new T; } }")
	for proc, want := range map[string]int{"p": 8, "q": 2, "n": 1} {
		l, err := verify.Paths(d, proc)
		if err != api.OK || len(l) != want {
			t.Error(proc, l, err)
		}
	}
}

func TestPathLimits(t *testing.T) {
	branches := func(n, more int) string {
		return strings.Repeat("if i < 3 { } ", n) + strings.Repeat("if i < 4 { return; } ", more)
	}
	// 256 paths, then 44 of them are parted in two by a tree of conditions: 300 and 301 paths.
	many := "if i < 0 { " + branches(8, 0) + " } else { " + branches(5, 0) + " if i < 1 { } else { } }"
	d := with(t, "i int", many, interval)
	if l, err := verify.Paths(d, "p"); err != api.ErrLimit || len(l) != 0 {
		t.Error(len(l), err)
	}
	exact := "if i < 0 { " + branches(8, 0) + " } else { if i < 1 { " + branches(5, 0) + " } else { if i < 2 { " + branches(3, 0) + "} else { " + branches(2, 0) + " } } }"
	if l, err := verify.Paths(with(t, "i int", exact, interval), "p"); err != api.OK || len(l) != 300 {
		t.Error(len(l), err)
	}
	five := "if i < 3 { } else { if i < 4 { } else { if i < 5 { } else { if i < 6 { } } } }"
	over := strings.Replace(exact, "{ "+branches(2, 0)+" }", "{ "+five+" }", 1)
	d = with(t, "i int", over, interval)
	if l, err := verify.Paths(d, "p"); err != api.ErrLimit || len(l) != 0 {
		t.Error(len(l), err)
	}
	if v, err := verify.Prove(d, "p", "i"); err != api.ErrLimit || v.Kind != 0 {
		t.Error(v, err)
	}
	if verify.Check(d, "p", "i", api.Verdict{Kind: api.Proved}) || verify.Check(d, "p", "i", api.Verdict{Kind: api.Unknown}) {
		t.Error("too many paths")
	}
	// A counterexample counts all the same.
	d = with(t, "i int, x T", over+" if not (x == nil) { x.hi = x.lo - 1; }", interval)
	if v := (api.Verdict{Kind: api.Refuted, Mem: api.Mem{Globals: make([]int, 4), Nodes: []api.Node{{F: make([]int, 5)}}}, Args: []int{5, 1}}); !verify.Check(d, "p", "i", v) {
		t.Error("a counterexample")
	}
	if v, err := verify.Prove(with(t, "i int", over, " = b"), "p", "i"); err != api.OK || v.Kind != api.Unknown {
		t.Error(v, err)
	}
	if _, err := verify.Paths(with(t, "i int", "if i == 0 { } if i == 1 { } if i == 2 { } if i == 3 { } if i == 4 { }", interval), "p"); err != api.OK {
		t.Error(err)
	}
}

func TestErrors(t *testing.T) {
	check := func(d api.Desc, proc, inv string, want, paths api.Errno) {
		t.Helper()
		if ok, err := verify.Simple(d, proc, inv); ok || err != want {
			t.Error(ok, err)
		}
		if v, err := verify.Prove(d, proc, inv); v.Kind != 0 || err != want {
			t.Error(v, err)
		}
		if l, err := verify.Paths(d, proc); len(l) != 0 && err != api.OK || err != paths {
			t.Error(l, err)
		}
		for kind := api.Proved; kind <= api.Unknown; kind++ {
			if verify.Check(d, proc, inv, api.Verdict{Kind: kind}) {
				t.Error(kind)
			}
		}
	}
	for _, d := range []api.Desc{{}, parse(t, "desc d { proc p() { x = 1; } invariant i = true }"), parse(t, "desc d { proc p() { } invariant i = 1 }")} {
		check(d, "zz", "zz", api.ErrArg, api.ErrArg)
		check(d, "p", "i", api.ErrArg, api.ErrArg)
	}
	d := with(t, "", "", interval)
	check(d, "zz", "i", api.ErrName, api.ErrName)
	check(d, "p", "zz", api.ErrName, api.OK)
	check(d, "i", "p", api.ErrName, api.ErrName)
}

// P17.3 to P17.5

type verdict struct {
	params, body, inv string
	kind              int
}

func verdicts() []verdict {
	return []verdict{
		{"x T", "x.lo = x.lo - 1;", interval, api.Proved}, {"x T", "x.hi = x.hi - 1;", interval, api.Refuted}, {"x T", "x.hi = x.hi + 1; x.lo = x.lo + 1;", interval, api.Proved}, {"x T", "x.hi = x.hi + 1; x.lo = x.lo + 2;", interval, api.Refuted}, {"", "", interval, api.Proved},
		{"x T, i int", "if x.lo <= i { x.hi = i; }", interval, api.Proved}, {"x T, i int", "if x.lo < i { x.hi = i - 1; }", interval, api.Proved}, {"x T, i int", "if x.lo < i { x.hi = i - 2; }", interval, api.Refuted}, {"x T, i int", "if i < x.lo { x.lo = i; } else { if x.hi < i { x.hi = i; } }", interval, api.Proved},
		{"x T, y T", "x.lo = y.lo; x.hi = y.hi;", interval, api.Proved}, {"x T, y T", "x.lo = y.lo;", interval, api.Refuted}, {"x T, y T", "if x == y { return; } x.lo = y.lo;", interval, api.Refuted}, {"x T, y T", "if x == y { x.lo = y.hi; }", interval, api.Proved}, {"x T, y T", "if x != y { x.hi = x.lo; x.lo = y.lo; x.lo = x.hi; }", interval, api.Proved},
		{"x T", "x.n.lo = x.n.hi;", interval, api.Proved}, {"x T", "x.n.lo = x.hi;", interval, api.Refuted}, {"", "r = new T; r.hi = 1;", interval, api.Proved}, {"", "r = new T; r.lo = 1;", interval, api.Refuted}, {"x T", "r = new T; r.lo = x.lo; r.hi = x.hi; r.n = x;", interval, api.Proved}, {"", "local x T; x = new T; x.lo = 5; x = nil;", interval, api.Refuted}, {"x T", "local y T; y = new T; y.n = y; y.n.lo = 1; y.hi = 1;", interval, api.Proved},
		{"x T, i int", "if x.lo == i { x.lo = i - 1; x.hi = i; }", interval, api.Proved}, {"x T", "if x.lo == x.hi { x.lo = x.lo + 1; x.hi = x.hi + 1; } else { x.lo = x.lo + 1; }", interval, api.Proved}, {"x T", "if x.lo != x.hi { x.lo = x.lo + 1; } else { x.hi = x.hi - 0; }", interval, api.Proved}, {"x T", "if x.lo != x.hi { x.lo = x.lo + 2; }", interval, api.Refuted},
		{"i int", "c = i;", " = c < m", api.Refuted}, {"i int", "if i < m { c = i; }", " = c < m", api.Proved}, {"", "m = m + 1;", " = c < m", api.Proved}, {"", "c = c + 1; m = m + 1;", " = c + 1 == m", api.Proved}, {"", "c = c + 1;", " = c + 1 == m", api.Refuted}, {"", "c = m; m = c + 1;", " = c + 1 == m", api.Proved}, {"", "c = m - 2;", " = c + 1 == m", api.Refuted}, {"", "c = 5;", " = c == 5 and 3 < c", api.Proved}, {"", "c = 4;", " = c == 5 and 3 < c", api.Refuted}, {"x T", "c = x.lo;", " = c < m", api.Refuted},
		{"", "local x T; x.lo = 9;", interval, api.Proved}, {"x U", "x.k = 1;", interval, api.Proved}, {"x U", "x.t.hi = x.k; x.t.lo = x.k;", interval, api.Proved}, {"x U", "x.t.hi = x.k;", interval, api.Refuted}, {"x T", "if x.hi < x.lo { x.lo = x.hi + 7; }", interval, api.Proved}, {"x T", "c = c + 1;", " = 2 < 1", api.Proved}, {"i int", "if i < 0 { if 0 < i { c = m; } }", " = c < m", api.Proved}, {"i int", "if 3 < 2 { c = m; }", " = c < m", api.Proved}, {"i int", "if i == 1000 { if i < 999 { c = m; } }", " = c < m", api.Proved},
		{"x T", "c = x.lo * 1;", interval, api.Unknown}, {"x T", "x.lo = x.lo - 1;", "(T) = this.on", api.Unknown},
	}
}

func TestProve(t *testing.T) {
	for _, c := range verdicts() {
		d := with(t, c.params, c.body, c.inv)
		v, err := verify.Prove(d, "p", "i")
		if err != api.OK || v.Kind != c.kind || !verify.Check(d, "p", "i", v) {
			t.Error(c, v, err)
			continue
		}
		empty := len(v.Mem.Globals)+len(v.Mem.Nodes)+len(v.Args) == 0
		if v.Kind == api.Proved && !empty || v.Kind != api.Proved && len(v.Proof) != 0 || v.Kind == api.Unknown && !empty {
			t.Error(c, v)
		}
		again, _ := verify.Prove(d, "p", "i")
		if len(again.Proof) != len(v.Proof) || !slices.Equal(again.Args, v.Args) {
			t.Error("another verdict")
		}
		if v.Kind == api.Refuted {
			checkCounterexample(t, d, v)
		}
		checkRuns(t, d, v)
	}
}

// holdsEverywhere asks the invariants of a description for all nodes.
func holdsEverywhere(t *testing.T, d api.Desc, m api.Mem) bool {
	t.Helper()
	for _, inv := range d.Invariants {
		for n := 0; n <= len(m.Nodes); n++ {
			ok, err := invariant.Holds(d, m, inv.Name, n)
			if err == api.OK && !ok {
				return false
			}
		}
	}
	return true
}

func checkCounterexample(t *testing.T, d api.Desc, v api.Verdict) {
	t.Helper()
	if !heap.Valid(d, v.Mem) || !holdsEverywhere(t, d, v.Mem) {
		t.Error("before", v)
	}
	o, m, err := eval.Run(d, v.Mem, api.Call{Proc: "p", Args: v.Args}, api.MaxFuel)
	if err != api.OK || o.Fault != api.OK || holdsEverywhere(t, d, m) {
		t.Error("after", v, o, err)
	}
}

// checkRuns runs the procedure from many small memories: what is proved never breaks, and what is refuted does in one
// of them, if the counterexample needs no more than them.
func checkRuns(t *testing.T, d api.Desc, v api.Verdict) {
	t.Helper()
	if v.Kind == api.Unknown {
		return
	}
	n := numbers(41)
	for range 150 {
		m := api.Mem{Globals: []int{n.below(3), n.below(5) - 1, n.below(5) - 1, n.below(2)}}
		for range 2 {
			m.Nodes = append(m.Nodes, api.Node{Type: 0, F: []int{n.below(4) - 1, n.below(4), n.below(3), 3 * n.below(2), n.below(2)}})
		}
		m.Nodes = append(m.Nodes, api.Node{Type: 1, F: []int{n.below(4) - 1, n.below(3)}})
		if !holdsEverywhere(t, d, m) {
			continue
		}
		var args []int
		for _, p := range d.Procs[0].Params {
			args = append(args, map[string]int{"int": n.below(7) - 2, "T": n.below(3), "U": 3 * n.below(2)}[p.Type])
		}
		o, after, err := eval.Run(d, m, api.Call{Proc: "p", Args: args}, 1000)
		if err != api.OK {
			t.Fatal(err)
		}
		if o.Fault == api.OK && v.Kind == api.Proved && !holdsEverywhere(t, d, after) {
			t.Error("proved, but broken", m, args, after)
		}
	}
}

// numbers yields numbers by a fixed rule.
type numbers int

func (n *numbers) below(limit int) int {
	*n = *n * 48271 % 2147483647
	return int(*n) % limit
}

func (n *numbers) pick(l ...string) string { return l[n.below(len(l))] }

func (n *numbers) ref() string { return n.pick("x", "y", "r", "x.n", "y.n", "x.u.t", "x.n.n") }

func (n *numbers) term() string {
	return n.pick("c", "m", "i", "x.lo", "y.hi", "x.n.lo", "r.hi", "3", "-1")
}

func (n *numbers) stmt(depth int) string {
	plus := n.pick("", "", " + 1", " - 2")
	base := n.pick("c", "m", "i", "x.lo", "x.hi", "y.lo", "y.hi")
	switch n.below(7) {
	case 0, 1:
		return n.pick("x", "y", "r", "x.n") + n.pick(".lo", ".hi") + " = " + base + plus + "; "
	case 2:
		return n.pick("c", "m", "i") + " = " + base + plus + "; "
	case 3:
		return n.pick("x", "y", "r", "x.n") + " = " + n.pick(n.ref(), "new T", "nil") + "; "
	}
	if depth == 0 {
		return "x.lo = x.hi; "
	}
	cond := n.term() + n.pick(" < ", " <= ", " == ", " != ") + n.term()
	if n.below(3) == 0 {
		cond = n.ref() + n.pick(" == ", " != ") + n.pick(n.ref(), "nil")
	}
	return "if " + cond + " { " + n.stmt(depth-1) + n.stmt(depth-1) + "} else { " + n.stmt(depth-1) + "} "
}

// Random simple procedures: verdicts are right, and agree with runs.
func TestManyProcedures(t *testing.T) {
	n := numbers(7)
	kinds := map[int]int{}
	for range 300 {
		body := ""
		for range 1 + n.below(3) {
			body += n.stmt(1)
		}
		inv := n.pick(interval, interval, " = c <= m", "(T) = this.lo - 1 < this.hi and 0 <= this.hi + 5", " = c == m and 0 <= c + 3")
		d := parse(t, head+"proc p(x T, y T, i int) { "+body+" } invariant i"+inv+" invariant other(U) = this.k < 9 invariant plain(T) = this.on or this.lo < 99 }")
		v, err := verify.Prove(d, "p", "i")
		if err == api.ErrLimit {
			continue
		}
		if err != api.OK || v.Kind == api.Unknown || !verify.Check(d, "p", "i", v) {
			t.Fatal(body, inv, v, err)
		}
		kinds[v.Kind]++
		d.Invariants = d.Invariants[:2]
		if v.Kind == api.Refuted {
			checkCounterexample(t, d, v)
		} else {
			d.Invariants = d.Invariants[:1]
			checkRuns(t, d, v)
		}
	}
	if kinds[api.Proved] < 15 || kinds[api.Refuted] < 50 {
		t.Error(kinds)
	}
}

// P17.4: proofs that are changed are no proofs.
func TestCheckOfProofs(t *testing.T) {
	d := with(t, "x T, i int", "if x.lo == i { x.lo = i - 1; x.hi = i; }", "(T) = this.lo <= this.hi and this.lo == this.lo")
	v, err := verify.Prove(d, "p", "i")
	if err != api.OK || v.Kind != api.Proved || len(v.Proof) != 9 {
		t.Fatal(v, err)
	}
	// The paths are 1 0, 1 1, and 1 2; for each of them there are the goals 0 0, 1 0, and 1 1 of the node 1.
	for i, r := range v.Proof {
		goals := [][2]int{{0, 0}, {1, 0}, {1, 1}}
		if !slices.Equal(r.Path, []int{1, i / 3}) || r.Node != 1 || [2]int{r.Atom, r.Case} != goals[i%3] || len(r.Cycle) == 0 {
			t.Error(i, r)
		}
	}
	fresh, _ := verify.Prove(d, "p", "i")
	fresh.Proof[0].Path[0] = 99
	if !slices.Equal(fresh.Proof[1].Path, []int{1, 0}) {
		t.Error("paths share memory")
	}
	for i := range v.Proof {
		for k, change := range []func(r *api.Refutation){
			func(r *api.Refutation) { r.Path = r.Path[:1] }, func(r *api.Refutation) { r.Path = []int{1, 3} }, func(r *api.Refutation) { r.Node = 2 }, func(r *api.Refutation) { r.Node = 0 }, func(r *api.Refutation) { r.Atom = 2 }, func(r *api.Refutation) { r.Case = 2 },
			func(r *api.Refutation) { r.Cycle = nil }, func(r *api.Refutation) { r.Cycle = append(slices.Clone(r.Cycle), 99) }, func(r *api.Refutation) { r.Cycle = []int{-1} }, func(r *api.Refutation) { r.Cycle = []int{99} }, func(r *api.Refutation) { r.Cycle = append([]int{-1}, r.Cycle...) }, func(r *api.Refutation) { r.Cycle = []int{1 << 60} }, func(r *api.Refutation) { r.Cycle = slices.Repeat(r.Cycle, 1001) },
		} {
			w := v
			w.Proof = slices.Clone(v.Proof)
			change(&w.Proof[i])
			if verify.Check(d, "p", "i", w) {
				t.Error(i, k)
			}
		}
		w := v
		w.Proof = slices.Delete(slices.Clone(v.Proof), i, i+1)
		if verify.Check(d, "p", "i", w) {
			t.Error("without", i)
		}
		w.Proof = slices.Clone(v.Proof)
		w.Proof[i], w.Proof[(i+1)%9] = w.Proof[(i+1)%9], w.Proof[i]
		if verify.Check(d, "p", "i", w) {
			t.Error("exchanged", i)
		}
		// A cycle that is gone through twice, or from another place on, is right, too.
		w.Proof = slices.Clone(v.Proof)
		w.Proof[i].Cycle = slices.Repeat(w.Proof[i].Cycle, 2)
		if !verify.Check(d, "p", "i", w) {
			t.Error("twice", i)
		}
		c := v.Proof[i].Cycle
		w.Proof[i].Cycle = append(slices.Clone(c[1:]), c[0])
		if !verify.Check(d, "p", "i", w) {
			t.Error("turned", i)
		}
	}
	// Cycles may be long, but not too long.
	rounds := api.MaxList / len(v.Proof[0].Cycle)
	for n, want := range map[int]bool{rounds: true, rounds + 1: false} {
		w := v
		w.Proof = slices.Clone(v.Proof)
		w.Proof[0].Cycle = slices.Repeat(v.Proof[0].Cycle, n)
		if verify.Check(d, "p", "i", w) != want {
			t.Error("a cycle of the length", len(w.Proof[0].Cycle))
		}
	}
	for _, change := range []func(v *api.Verdict){
		func(v *api.Verdict) { v.Proof = append(slices.Clone(v.Proof), v.Proof[8]) }, func(v *api.Verdict) { v.Kind = api.Unknown }, func(v *api.Verdict) { v.Kind = api.Refuted }, func(v *api.Verdict) { v.Kind = 0 }, func(v *api.Verdict) { v.Args = []int{1} }, func(v *api.Verdict) { v.Mem.Globals = []int{0} }, func(v *api.Verdict) { v.Mem.Nodes = make([]api.Node, 1) }, func(v *api.Verdict) { v.Proof = nil }, func(v *api.Verdict) { *v = api.Verdict{Kind: api.Unknown} },
	} {
		w := v
		change(&w)
		if verify.Check(d, "p", "i", w) {
			t.Error(w)
		}
	}
}

// The order of the constraints of a goal, told by cycles that are made by hand.
func TestConstraintsOfGoals(t *testing.T) {
	d := parse(t, head+"proc p(x T, i int) { if i < 3 { if x.lo == i { x.lo = x.lo - 1; } } } invariant first = c <= m invariant i(T) = this.lo <= this.hi invariant wide(T) = this.lo + 5 == this.hi and this.hi < 99 invariant odd(T) = this.on invariant last = m < 7 }")
	// In the path 1 1 0: 0: i - zero <= 2; 1: lo - i <= 0; 2: i - lo <= 0; 3: c - m <= 0; 4: m - zero <= 6; 5: lo - hi <= 0;
	// 6: lo - hi <= -5; 7: hi - lo <= 5; 8: hi - zero <= 98; and at last 9: hi - lo <= -2.
	proof := func(last ...int) api.Verdict {
		v, err := verify.Prove(d, "p", "i")
		if err != api.OK || v.Kind != api.Proved || len(v.Proof) != 3 {
			t.Fatal(v, err)
		}
		if !slices.Equal(v.Proof[0].Path, []int{1, 1, 0}) || v.Proof[0].Node != 1 {
			t.Fatal(v.Proof)
		}
		v.Proof[0].Cycle = last
		return v
	}
	for _, c := range []struct {
		cycle []int
		want  bool
	}{
		{[]int{9, 5}, true}, {[]int{5, 9}, true}, {[]int{9, 6}, true}, {[]int{6, 7}, false}, {[]int{7, 9}, false}, {[]int{9, 1, 2, 5}, true}, {[]int{2, 9, 1}, false}, {[]int{1, 2}, false}, {[]int{9, 2, 1, 5}, false}, {[]int{9, 5, 9, 5}, true}, {[]int{9}, false}, {[]int{6, 7, 6, 9}, true}, {[]int{6, 7, 6, 7}, false}, {[]int{3, 4}, false}, {[]int{9, 10}, false}, {[]int{8, 0}, false},
	} {
		if got := verify.Check(d, "p", "i", proof(c.cycle...)); got != c.want {
			t.Error(c.cycle, got)
		}
	}
}

// The choices of comparisons, told by cycles of the constraints of the path alone.
func TestConstraintsOfChoices(t *testing.T) {
	for _, c := range []struct {
		cond string
		path []int
		want bool
	}{
		// 1: less, and then not less; 2: greater, and then less; and so on.
		{"x.lo == i", []int{1, 1, 0}, true}, {"x.lo == i", []int{1, 1, 1}, false}, {"x.lo == i", []int{1, 2, 1}, true}, {"x.lo == i", []int{1, 2, 0}, false}, {"x.lo != i", []int{1, 1, 0}, true}, {"x.lo != i", []int{1, 2, 1}, true}, {"x.lo != i", []int{1, 2, 0}, false},
		{"x.lo < i", []int{1, 1, 0}, true}, {"x.lo < i", []int{1, 0, 1}, true}, {"x.lo < i", []int{1, 0, 0}, false}, {"x.lo <= i", []int{1, 0, 1}, true}, {"x.lo <= i", []int{1, 1, 1}, false}, {"x.lo <= i", []int{1, 1, 0}, false}, {"i <= x.lo", []int{1, 0, 0}, true}, {"i <= x.lo", []int{1, 1, 1}, true},
	} {
		d := with(t, "x T, i int", "if "+c.cond+" { } if x.lo < i { }", interval)
		v, err := verify.Prove(d, "p", "i")
		if err != api.OK || v.Kind != api.Proved {
			t.Fatal(c, v, err)
		}
		at := slices.IndexFunc(v.Proof, func(r api.Refutation) bool { return slices.Equal(r.Path, c.path) })
		if at < 0 {
			t.Fatal(c, v.Proof)
		}
		v.Proof[at].Cycle = []int{0, 1}
		if verify.Check(d, "p", "i", v) != c.want {
			t.Error(c)
		}
	}
}

func TestGoalsOfGlobals(t *testing.T) {
	d := with(t, "i int", "if i < m { c = i; }", " = c < m and c == c")
	v, err := verify.Prove(d, "p", "i")
	if err != api.OK || v.Kind != api.Proved || len(v.Proof) != 6 {
		t.Fatal(v, err)
	}
	for i, r := range v.Proof {
		if r.Node != 0 || !slices.Equal(r.Path, []int{i / 3}) || [2]int{r.Atom, r.Case} != [][2]int{{0, 0}, {1, 0}, {1, 1}}[i%3] {
			t.Error(i, r)
		}
	}
}

// P17.4: counterexamples that are changed are none.
func TestCheckOfCounterexamples(t *testing.T) {
	d := parse(t, head+"proc p(x T) { x.hi = x.hi - 1; } invariant i(T) = this.lo <= this.hi invariant plain(T) = this.on invariant other(U) = this.k < 9 invariant same = c == m }")
	good := func() api.Verdict {
		return api.Verdict{Kind: api.Refuted, Mem: api.Mem{Globals: []int{0, 4, 4, 1}, Nodes: []api.Node{{Type: 0, F: []int{0, 0, 0, 0, 0}}, {Type: 1, F: []int{8, 1}}}}, Args: []int{1}}
	}
	if !verify.Check(d, "p", "i", good()) {
		t.Fatal("good")
	}
	for i, change := range []func(v *api.Verdict){
		func(v *api.Verdict) { v.Mem.Globals[0] = 1 }, func(v *api.Verdict) { v.Mem.Nodes[0].F[0], v.Mem.Nodes[0].F[1] = -7, -7 }, func(v *api.Verdict) { v.Mem.Nodes[0].F[2] = 1 }, func(v *api.Verdict) { v.Mem.Nodes[0].F[4] = 1 },
		// The sum of an invariant, or its difference, may be too great: then it does not hold.
		func(v *api.Verdict) {
			v.Mem.Nodes[0].F[0], v.Mem.Nodes[0].F[1] = 1-api.MaxInt, 1-api.MaxInt
		},
	} {
		v := good()
		change(&v)
		if !verify.Check(d, "p", "i", v) {
			t.Error(i)
		}
	}
	for i, change := range []func(v *api.Verdict){
		func(v *api.Verdict) { v.Args = nil }, func(v *api.Verdict) { v.Args = []int{0} }, func(v *api.Verdict) { v.Args = []int{2} }, func(v *api.Verdict) { v.Args = []int{3} }, func(v *api.Verdict) { v.Args = []int{1, 1} }, func(v *api.Verdict) { v.Mem.Nodes[0].F[1] = 1 }, func(v *api.Verdict) { v.Mem.Nodes[0].F[1] = -1 },
		func(v *api.Verdict) { v.Mem.Nodes[1].F[0] = 9 }, func(v *api.Verdict) { v.Mem.Globals[1] = 5 }, func(v *api.Verdict) { v.Mem.Globals = nil }, func(v *api.Verdict) { v.Mem.Nodes[0].F[4] = 2 }, func(v *api.Verdict) { v.Proof = make([]api.Refutation, 1) }, func(v *api.Verdict) { v.Kind = api.Proved }, func(v *api.Verdict) { v.Kind = api.Unknown }, func(v *api.Verdict) { v.Kind = 4 },
		func(v *api.Verdict) {
			v.Mem.Nodes = append(v.Mem.Nodes, api.Node{Type: 0, F: []int{1, 0, 0, 0, 0}})
		}, func(v *api.Verdict) { v.Mem.Nodes[0].F[0], v.Mem.Nodes[0].F[1] = -api.MaxInt, -api.MaxInt },
	} {
		v := good()
		change(&v)
		if verify.Check(d, "p", "i", v) {
			t.Error(i)
		}
	}
	// The run must not fault, though the invariant is broken by then.
	faulting := parse(t, head+"proc p(x T) { x.hi = x.hi - 1; c = r.lo; } invariant i(T) = this.lo <= this.hi }")
	for first, want := range map[int]bool{0: false, 1: true} {
		v := api.Verdict{Kind: api.Refuted, Mem: api.Mem{Globals: []int{first, 0, 0, 0}, Nodes: []api.Node{{F: make([]int, 5)}}}, Args: []int{1}}
		if verify.Check(faulting, "p", "i", v) != want {
			t.Error("a fault", first)
		}
	}
	// A node that is not reached may be broken, too.
	d = parse(t, head+"proc p(x T) { local y T; y = new T; y.lo = 1; } invariant i(T) = this.lo <= this.hi }")
	if !verify.Check(d, "p", "i", api.Verdict{Kind: api.Refuted, Mem: api.Mem{Globals: make([]int, 4)}, Args: []int{0}}) {
		t.Error("not reached")
	}
	// The zero verdicts of a description without global variables.
	d = parse(t, "desc d { type T { k int } proc p() { local x T; x = new T; } proc q() { } invariant i(T) = this.k < 0 }")
	if !verify.Check(d, "p", "i", api.Verdict{Kind: api.Refuted}) || verify.Check(d, "q", "i", api.Verdict{Kind: api.Refuted}) || !verify.Check(d, "q", "i", api.Verdict{Kind: api.Proved}) || verify.Check(d, "p", "i", api.Verdict{Kind: api.Proved}) || verify.Check(d, "q", "i", api.Verdict{Kind: api.Unknown}) {
		t.Error("zero verdicts")
	}
	// In what is proved, an invariant may fault by a sum that is too great.
	d = parse(t, "desc d { type T { k int } proc p(x T) { if x.k < 1000 { return; } x.k = x.k + 1; } invariant i(T) = this.k < this.k + 1 }")
	v, err := verify.Prove(d, "p", "i")
	big := api.Verdict{Kind: api.Refuted, Mem: api.Mem{Nodes: []api.Node{{F: []int{api.MaxInt - 1}}}}, Args: []int{1}}
	if err != api.OK || v.Kind != api.Proved || !verify.Check(d, "p", "i", v) || !verify.Check(d, "p", "i", big) {
		t.Error(v, err)
	}
}
