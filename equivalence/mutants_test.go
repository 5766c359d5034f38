package equivalence_test

import (
	"slices"
	"testing"

	"heartwood/api"
	"heartwood/ast"
	"heartwood/copies"
	"heartwood/equivalence"
	"heartwood/eval"
	"heartwood/heap"
	"heartwood/library"
	"heartwood/parser"
	"heartwood/typecheck"
)

func parse(t *testing.T, s string) api.Desc {
	t.Helper()
	d, place, err := parser.Parse(s)
	if err != api.OK {
		t.Fatal(s, place, err)
	}
	return d
}

// P54.6: the mutants of a description with all operators, as their texts.
func TestMutants(t *testing.T) {
	d := parse(t, `desc d { type T { k int; n T } var c int var b bool var r T
proc p(x int) int { while x < 3 and not b { x = -x + 1; } if x == 2 { b = true; } else { r.k = max(x, 1099511627776); } return if(r != nil or x <= 1, x - 5, min(x * 2, x / x % x)); }
proc q(x bool) { b = false; q(x == b); r = new T; r = r.n; c = log(p(0)); return; }
measure m(T) nil 0 = this.k + 1 invariant i = c < 5 bound p = c + 1 }`)
	want := []string{
		"while x <= 3 and not b", "while x < 4 and not b", "x = -x - 1", "x = -x + 2", "if x != 2", "if x == 3", "b = false", "r.k = min(x, 1099511627776)",
		"r != nil and x <= 1", "r == nil or x <= 1", "r != nil or x < 1", "r != nil or x <= 2", "x + 5", "x - 6", "max(x * 2, x / x % x)", "x * 3", "b = true", "q(x != b)", "log(p(1))",
	}
	// The first statement is changed at its and first, which is written in between.
	want = slices.Insert(want, 0, "while x < 3 or not b")
	l, err := equivalence.Mutants(d)
	if err != api.OK || len(l) != len(want) {
		t.Fatal(len(l), err)
	}
	first, _ := ast.Text(d)
	seen := map[string]bool{first: true}
	for i, m := range l {
		text, err := ast.Text(m)
		if err != api.OK || seen[text] || !contains(text, want[i]) || contains(first, want[i]) && want[i] != "b = true" && want[i] != "b = false" {
			t.Error(i, want[i], text)
		}
		seen[text] = true
		if _, _, err := typecheck.Check(m); err != api.OK {
			t.Error(i, err)
		}
	}
	if text, _ := ast.Text(d); text != first {
		t.Error("the argument was changed")
	}
}

func contains(text, part string) bool {
	for i := range len(text) - len(part) + 1 {
		if text[i:i+len(part)] == part {
			return true
		}
	}
	return false
}

// Mutants of the library: different, well-typed, in one place each.
func TestLibraryMutants(t *testing.T) {
	for _, name := range library.Names() {
		d, _ := library.Load(name)
		l, err := equivalence.Mutants(d)
		if err != api.OK || len(l) < 10 || len(l) > api.MaxList {
			t.Fatal(name, len(l), err)
		}
		for i, m := range l {
			if _, _, err := typecheck.Check(m); err != api.OK || ast.Same(m, d) || i > 0 && ast.Same(m, l[i-1]) {
				t.Fatal(name, i, err)
			}
			changed := 0
			for k, p := range m.Procs {
				if !ast.Same(api.Desc{Procs: []api.Proc{p}}, api.Desc{Procs: []api.Proc{d.Procs[k]}}) {
					changed++
				}
			}
			if changed != 1 {
				t.Fatal(name, i, changed)
			}
		}
	}
	many := api.Desc{Name: "many", Globals: []api.Field{{Name: "c", Type: "int"}}}
	for i := range 8 {
		p := api.Proc{Name: "p" + string(rune('a'+i))}
		for range 150 {
			p.Body = append(p.Body, api.Stmt{Op: api.SSet, S: "c", E: []api.Expr{{Op: api.XInt}}})
		}
		many.Procs = append(many.Procs, p)
	}
	if l, err := equivalence.Mutants(many); len(l) != api.MaxList || err != api.OK || l[999].Procs[6].Body[99].E[0].N != 1 {
		t.Error(len(l), err)
	}
	many.Procs[0].Body[0].E[0].Op = api.XBool
	for _, d := range []api.Desc{{}, many} {
		if l, err := equivalence.Mutants(d); l != nil || err != api.ErrArg {
			t.Error(len(l), err)
		}
	}
	if l, err := equivalence.Mutants(parse(t, "desc d { }")); len(l) != 0 || err != api.OK {
		t.Error(len(l), err)
	}
}

// tested finds the first difference by its definition.
func tested(t *testing.T, d api.Desc, name string, l []api.Op) (bool, api.Difference, api.Errno) {
	t.Helper()
	kind, _ := library.Kind(name)
	want := modelResults(kind, l)
	m, _ := heap.New(d)
	for i, o := range l {
		c, _ := library.Bind(name, o)
		x, after, err := eval.Run(d, m, c, 1000)
		if err != api.OK {
			return false, api.Difference{}, err
		}
		if x.Fault == api.OK {
			m = after
		}
		if got, _ := library.Result(name, o, x); !sameRes(got, want[i]) {
			return false, api.Difference{At: i, Want: want[i], Got: got}, api.OK
		}
	}
	return true, api.Difference{}, api.OK
}

func sameDifference(a, b api.Difference) bool {
	return a.At == b.At && sameRes(a.Want, b.Want) && sameRes(a.Got, b.Got)
}

// P54.4, P54.5, and P54.7: mutants of the library.
func TestShrink(t *testing.T) {
	killed := 0
	for _, name := range library.Names() {
		kind, _ := library.Kind(name)
		d, _ := library.Load(name)
		l, _ := equivalence.Mutants(d)
		n := numbers(len(name))
		for i := 0; i < len(l); i += 1 + len(l)/12 {
			script := n.script(kind, name, 30)
			same, difference, err := equivalence.Test(l[i], name, script)
			if s, x, e := tested(t, l[i], name, script); same != s || !sameDifference(difference, x) || err != e {
				t.Fatal(name, i, same, difference, err, s, x, e)
			}
			short, found, err := equivalence.Shrink(l[i], name, script)
			if same {
				if short != nil || found.At != 0 || err != api.ErrNone {
					t.Fatal(name, i, short, found, err)
				}
				continue
			}
			killed++
			checkShort(t, l[i], name, script, short, found, err)
		}
		if same, difference, err := equivalence.Test(d, name, n.script(kind, name, 30)); !same || difference.At != 0 || err != api.OK {
			t.Error(name, difference, err)
		}
	}
	if killed < 50 {
		t.Error(killed)
	}
}

// checkShort compares a script that was shrunk with the definition.
func checkShort(t *testing.T, d api.Desc, name string, script, short []api.Op, found api.Difference, err api.Errno) {
	t.Helper()
	want := slices.Clone(script)
	for removed := true; removed; {
		removed = false
		for i := 0; i < len(want); {
			rest := slices.Delete(slices.Clone(want), i, i+1)
			if same, _, err := tested(t, d, name, rest); !same && err == api.OK {
				want, removed = rest, true
			} else {
				i++
			}
		}
	}
	_, difference, _ := tested(t, d, name, want)
	sameOp := func(a, b api.Op) bool { return a.Code == b.Code && slices.Equal(a.Args, b.Args) }
	if err != api.OK || !slices.EqualFunc(short, want, sameOp) || !sameDifference(found, difference) {
		t.Fatal(name, short, want, found, difference, err)
	}
	for _, o := range short {
		clear(o.Args)
	}
	if _, again, _ := equivalence.Shrink(d, name, script); !sameDifference(again, difference) {
		t.Fatal("results share memory with arguments")
	}
}

func TestExample(t *testing.T) {
	d, _ := library.Load("list")
	d = copies.Desc(d)
	l, _ := equivalence.Mutants(d)
	script := []api.Op{op(api.DictPut, 1, 1), op(api.DictPut, 1, 2)}
	for _, m := range l {
		p, _ := ast.Proc(m, "before")
		text, _ := ast.TextExpr(p.Body[1].E[0])
		if text != "q != nil and q.k <= k" {
			continue
		}
		same, difference, err := equivalence.Test(m, "list", script)
		if same || !sameDifference(difference, api.Difference{At: 1, Want: api.Res{N: 1}}) || err != api.OK {
			t.Error(same, difference, err)
		}
		return
	}
	t.Error("the mutant is missing")
}

func TestTestErrors(t *testing.T) {
	d, _ := library.Load("list")
	missing := copies.Desc(d)
	missing.Procs = slices.DeleteFunc(missing.Procs, func(p api.Proc) bool { return p.Name == "size" })
	missing.Bounds = nil
	fewer := parse(t, "desc d { var c int proc put(k int) int { return 0; } proc get(k bool) int { return 0; } proc size() int { c = c + 1; return c / 0; } }")
	wrong := copies.Desc(d)
	wrong.Procs[0].Body = append(wrong.Procs[0].Body, api.Stmt{Op: api.SReturn})
	long := slices.Repeat([]api.Op{op(api.DictSize)}, 101)
	size := []api.Op{op(api.DictSize)}
	for i, x := range []struct {
		d    api.Desc
		name string
		l    []api.Op
		want api.Errno
	}{
		{api.Desc{}, "?", nil, api.ErrArg}, {wrong, "?", nil, api.ErrArg}, {d, "?", append(long, op(99)), api.ErrName}, {d, "splay", append(long, op(99)), api.ErrArg}, {d, "splay", append(long, op(api.DictRank, 1)), api.ErrFull}, {d, "splay", []api.Op{op(api.DictSize), op(api.DictRank, 1)}, api.ErrNone},
		{missing, "list", size, api.ErrName}, {fewer, "list", []api.Op{op(api.DictPut, 1, 2)}, api.ErrSize}, {fewer, "list", []api.Op{op(api.DictGet, 2)}, api.ErrType},
	} {
		if same, difference, err := equivalence.Test(x.d, x.name, x.l); same || !sameDifference(difference, api.Difference{}) || err != x.want {
			t.Error(i, same, difference, err)
		}
		if l, difference, err := equivalence.Shrink(x.d, x.name, x.l); l != nil || !sameDifference(difference, api.Difference{}) || err != x.want {
			t.Error(i, l, difference, err)
		}
	}
	// What comes after the first difference is not looked at; a fault leaves the memory as it was.
	if same, difference, err := equivalence.Test(fewer, "list", []api.Op{op(api.DictSize), op(api.DictPut, 1, 2)}); same || !sameDifference(difference, api.Difference{Got: api.Res{Err: api.ErrZero}}) || err != api.OK {
		t.Error(same, difference, err)
	}
	if l, difference, err := equivalence.Shrink(missing, "list", []api.Op{op(api.DictPut, 1, 2), op(api.DictGet, 1)}); l != nil || !sameDifference(difference, api.Difference{}) || err != api.ErrNone {
		t.Error(l, difference, err)
	}
	for _, l := range [][]api.Op{nil, long[:100]} {
		if same, _, err := equivalence.Test(d, "list", l); !same || err != api.OK {
			t.Error(same, err)
		}
	}
}

// A loop uses up 1,000 ticks; with more fuel it would end.
func TestFuel(t *testing.T) {
	d := parse(t, "desc d { var c int proc size() int { c = 0; c = 0; while c < 498 { c = c + 1; } return 0; } proc rank(k int) int { c = 0; while c < 499 { c = c + 1; } return 0; } }")
	// Of 498 rounds there are 1,000 ticks with three further statements, and the last look at the condition.
	if same, _, err := equivalence.Test(d, "list", []api.Op{op(api.DictSize)}); !same || err != api.OK {
		t.Error(same, err)
	}
	if same, difference, err := equivalence.Test(d, "list", []api.Op{op(api.DictSize), op(api.DictRank, 1)}); same || !sameDifference(difference, api.Difference{At: 1, Got: api.Res{Err: api.ErrFuel}}) || err != api.OK {
		t.Error(same, difference, err)
	}
}
