package unify_test

import (
	"strconv"
	"strings"
	"testing"

	"heartwood/api"
	"heartwood/unify"
)

// P5.1: Valid

func TestValid(t *testing.T) {
	good := [][]api.Binding{
		nil, {}, binds(t, "x", "s", "c()"), binds(t, "x", "s", "y:s"), binds(t, "x", "s", "f(x:s)"), binds(t, "x", "s", "f(x:t)"),
		binds(t, "x", "s", "y:s", "y", "s", "x:s"), binds(t, "X", "s", "c()", "x", "s", "c()", "x0", "t", "c()"),
		many(api.MaxList),
	}
	for i, s := range good {
		if !unify.Valid(s) {
			t.Error(i, s)
		}
	}
	bad := [][]api.Binding{
		binds(t, "x", "s", "x:s"), binds(t, "x", "s", "y:t"), binds(t, "x", "s", "x:t"),
		binds(t, "x", "s", "c()", "x", "s", "c()"), binds(t, "x", "s", "c()", "x", "t", "c()"), binds(t, "y", "s", "c()", "x", "s", "c()"),
		binds(t, "x", "s", "c()", "X", "s", "c()"),
		binds(t, "if", "s", "c()"), binds(t, "", "s", "c()"), binds(t, "x", "", "c()"), binds(t, "x", "int", "c()"), binds(t, "x", "1", "c()"),
		binds(t, strings.Repeat("x", api.MaxName+1), "s", "c()"), many(api.MaxList + 1),
	}
	for _, x := range wrong() {
		bad = append(bad, []api.Binding{{Name: "x", Sort: "s", T: x}})
	}
	for i, s := range bad {
		if unify.Valid(s) {
			t.Error(i, s)
		}
	}
}

// many returns n bindings v10000, v10001, .. of the sort s to c().
func many(n int) []api.Binding {
	var s []api.Binding
	for i := range n {
		s = append(s, api.Binding{Name: "v" + strconv.Itoa(10000+i), Sort: "s", T: op("c")})
	}
	return s
}

// invalid has substitutions that are not valid.
func invalid(t *testing.T) [][]api.Binding {
	return [][]api.Binding{binds(t, "x", "s", "x:s"), binds(t, "y", "s", "c()", "x", "s", "c()"), many(api.MaxList + 1), {{}}}
}

// P5.1: Apply

func wantApply(t *testing.T, s []api.Binding, x api.Term, want api.Term) {
	t.Helper()
	beforeS, beforeX := cloneAll(s), clone(x)
	r, err := unify.Apply(s, x)
	if err != api.OK || !same(r, want) {
		t.Errorf("Apply(%v, %v) = %v %v, want %v", s, x, r, err, want)
	}
	if !sameAll(s, beforeS) || !same(x, beforeX) {
		t.Error("an argument has changed")
	}
	want = clone(want)
	spoil(x)
	for _, b := range s {
		spoil(b.T)
	}
	if !same(r, want) {
		t.Error("the result shares memory with an argument")
	}
}

func TestApply(t *testing.T) {
	for _, c := range []struct {
		s    []string
		x, r string
	}{
		{nil, "f(x:s, c())", "f(x:s, c())"},
		{[]string{"x", "s", "c()"}, "x:s", "c()"},
		{[]string{"x", "s", "c()"}, "x()", "x()"},
		{[]string{"x", "s", "c()"}, "f(x:s, g(y:t), x:s)", "f(c(), g(y:t), c())"},
		{[]string{"x", "s", "y:s", "y", "s", "x:s"}, "f(x:s, y:s)", "f(y:s, x:s)"},
		{[]string{"x", "s", "g(x:s)"}, "f(x:s, g(x:s))", "f(g(x:s), g(g(x:s)))"},
		{[]string{"x", "s", "g(y:s)", "y", "s", "c()"}, "f(x:s, y:s)", "f(g(y:s), c())"},
		{[]string{"x", "s", "f(a(), z:u, b())", "z", "u", "c()"}, "f(x:s, x:s, z:u)", "f(f(a(), z:u, b()), f(a(), z:u, b()), c())"},
		{[]string{"x", "s", "f(y:t)", "y", "t", "c()"}, "g(x:s)", "g(f(y:t))"},
		{[]string{"x", "s", "f(x:t)"}, "g(x:s)", "g(f(x:t))"},
	} {
		wantApply(t, binds(t, c.s...), parse(t, c.x), parse(t, c.r))
	}
	wantApply(t, many(api.MaxList), op("f", variable("v10000", "s"), variable("v10999", "s"), variable("v11000", "s"), variable("v10500", "s")), op("f", op("c"), op("c"), variable("v11000", "s"), op("c")))
}

func wantNoApply(t *testing.T, s []api.Binding, x api.Term, want api.Errno) {
	t.Helper()
	if r, err := unify.Apply(s, x); err != want || !isZero(r) {
		t.Errorf("Apply(%.80v, %.80v) = %.80v %v, want %v", s, x, r, err, want)
	}
}

func TestApplyErrors(t *testing.T) {
	x := binds(t, "x", "s", "c()")
	for _, w := range wrong() {
		wantNoApply(t, x, w, api.ErrArg)
		wantNoApply(t, nil, w, api.ErrArg)
	}
	for _, s := range invalid(t) {
		wantNoApply(t, s, variable("x", "t"), api.ErrArg)
	}
	wantNoApply(t, x, parse(t, "x:t"), api.ErrType)
	wantNoApply(t, x, parse(t, "f(y:s, g(x:t))"), api.ErrType)
	// A clash comes before what is too great; two sorts in the result come after it.
	big := []api.Binding{{Name: "x", Sort: "s", T: bush(api.MaxSize, always(variable("z", "s")))}, {Name: "y", Sort: "s", T: op("c")}}
	wantNoApply(t, big, parse(t, "f(x:s, y:t)"), api.ErrType)
	wantNoApply(t, big, parse(t, "f(x:s, y:s)"), api.ErrFull)
	wantNoApply(t, big, parse(t, "f(z:t, x:s)"), api.ErrFull)
	wantNoApply(t, binds(t, "x", "s", "g(y:t)"), parse(t, "f(x:s, y:s)"), api.ErrType)
	wantNoApply(t, binds(t, "x", "s", "g(y:t)", "z", "u", "g(y:s)"), parse(t, "f(x:s, z:u)"), api.ErrType)
	wantNoApply(t, binds(t, "x", "s", "g(x:t)", "z", "u", "g(x:s)"), parse(t, "f(x:s, z:u)"), api.ErrType)
	wantNoApply(t, binds(t, "x", "s", "g(x:t)"), op("f", variable("x", "s"), variable("x", "t")), api.ErrArg)
}

func TestApplyLimits(t *testing.T) {
	half := []api.Binding{{Name: "x", Sort: "s", T: bush(499, always(op("c")))}}
	wantApply(t, half, parse(t, "f(x:s, x:s, c())"), op("f", bush(499, always(op("c"))), bush(499, always(op("c"))), op("c")))
	half = []api.Binding{{Name: "x", Sort: "s", T: bush(499, always(op("c")))}}
	wantNoApply(t, half, parse(t, "f(x:s, x:s, c(), c())"), api.ErrFull)
	deep := []api.Binding{{Name: "x", Sort: "s", T: tower(api.MaxNest-2, op("c"))}}
	wantNoApply(t, deep, parse(t, "f(f(x:s))"), api.ErrFull)
	wantApply(t, deep, parse(t, "f(x:s)"), op("f", tower(api.MaxNest-2, op("c"))))
	wantNoApply(t, []api.Binding{{Name: "x", Sort: "s", T: bush(api.MaxSize, always(variable("x", "s")))}}, bush(api.MaxSize, always(variable("x", "s"))), api.ErrFull)
}

// P5.2

func wantCompose(t *testing.T, a, b, want []api.Binding) {
	t.Helper()
	r, err := unify.Compose(a, b)
	if err != api.OK || !sameAll(r, want) || !unify.Valid(r) {
		t.Errorf("Compose(%v, %v) = %v %v, want %v", a, b, r, err, want)
	}
	for _, s := range [][]api.Binding{a, b} {
		for i := range s {
			spoil(s[i].T)
			s[i].Name = "spoilt"
		}
	}
	if !sameAll(r, want) {
		t.Error("the result shares memory with an argument")
	}
}

func TestCompose(t *testing.T) {
	l := func(s ...string) []api.Binding { return binds(t, s...) }
	wantCompose(t, nil, nil, nil)
	wantCompose(t, l("x", "s", "g(y:s)"), nil, l("x", "s", "g(y:s)"))
	wantCompose(t, nil, l("x", "s", "g(y:s)"), l("x", "s", "g(y:s)"))
	wantCompose(t, l("x", "s", "g(y:s)"), l("y", "s", "c()"), l("x", "s", "g(c())", "y", "s", "c()"))
	wantCompose(t, l("x", "s", "y:s"), l("y", "s", "x:s"), l("y", "s", "x:s"))
	wantCompose(t, l("y", "s", "g(x:s)"), l("x", "s", "g(y:s)", "y", "s", "c()"), l("x", "s", "g(y:s)", "y", "s", "g(g(y:s))"))
	wantCompose(t, l("x", "s", "c()"), l("x", "t", "g(c())"), l("x", "s", "c()"))
	wantCompose(t, l("b", "s", "c()", "d", "s", "a:s"), l("a", "s", "e:s", "c", "s", "d()"), l("a", "s", "e:s", "b", "s", "c()", "c", "s", "d()", "d", "s", "e:s"))
	wantCompose(t, l("x", "s", "g(g(y:s))"), l("z", "t", "f(g(h(y:s)), c())"), l("x", "s", "g(g(y:s))", "z", "t", "f(g(h(y:s)), c())"))
	wantCompose(t, l("x", "s", "y:s", "z", "s", "y:s"), l("y", "s", "x:s"), l("y", "s", "x:s", "z", "s", "x:s"))
}

func TestComposeErrors(t *testing.T) {
	want := func(a, b []api.Binding, want api.Errno) {
		t.Helper()
		if r, err := unify.Compose(a, b); err != want || len(r) != 0 {
			t.Errorf("Compose = %.80v %v, want %v", r, err, want)
		}
	}
	x := binds(t, "x", "s", "g(y:s)")
	for _, s := range invalid(t) {
		want(s, x, api.ErrArg)
		want(x, s, api.ErrArg)
	}
	want(x, binds(t, "y", "t", "c()"), api.ErrType)
	big := []api.Binding{{Name: "y", Sort: "s", T: bush(api.MaxSize, always(op("c")))}}
	want(x, big, api.ErrFull)
	want(binds(t, "a", "s", "g(y:s)", "b", "s", "g(y:t)"), big, api.ErrFull)
	want(binds(t, "a", "s", "g(y:t)", "b", "s", "g(y:s)"), big, api.ErrType)
	want(binds(t, "a", "s", "f(y:s, z:s)"), binds(t, "y", "s", "g(z:t)"), api.ErrType)
	want(many(api.MaxList), x, api.ErrFull)
	want(x, many(api.MaxList), api.ErrFull)
	if r, err := unify.Compose(many(api.MaxList), many(api.MaxList)); err != api.OK || len(r) != api.MaxList {
		t.Error(len(r), err)
	}
	// A binding that goes away does not count.
	all := many(api.MaxList)
	all[0].T = variable("z", "s")
	if r, err := unify.Compose(all, []api.Binding{{Name: "z", Sort: "s", T: variable("v10000", "s")}}); err != api.OK || len(r) != api.MaxList {
		t.Error(len(r), err)
	}
}

// P5.2 and P5.6: what a composition does, and that it is associative.
func TestCompositions(t *testing.T) {
	l := [][]api.Binding{
		nil, binds(t, "x", "s", "y:s"), binds(t, "y", "s", "x:s"), binds(t, "x", "s", "y:s", "y", "s", "x:s"), binds(t, "x", "s", "g(x:s)"),
		binds(t, "x", "s", "f(y:s, z:t)", "z", "t", "c()"), binds(t, "y", "s", "g(z:t)", "z", "t", "g(x:s)"), binds(t, "z", "t", "f(z:t, z:t)"),
	}
	for _, a := range l {
		for _, b := range l {
			ab, err := unify.Compose(a, b)
			if err != api.OK {
				t.Fatal(a, b, err)
			}
			for _, x := range small() {
				if got, want := replaced(ab, x), replaced(b, replaced(a, x)); !same(got, want) {
					t.Fatal(a, b, x, got, want)
				}
				if got, err := unify.Apply(ab, x); err != api.OK || !same(got, replaced(ab, x)) {
					t.Fatal(ab, x, got, err)
				}
			}
			for _, c := range l {
				bc, _ := unify.Compose(b, c)
				left, err1 := unify.Compose(ab, c)
				right, err2 := unify.Compose(a, bc)
				if err1 != api.OK || err2 != api.OK || !sameAll(left, right) {
					t.Fatal(a, b, c, left, right, err1, err2)
				}
			}
		}
	}
}

// P5.5: Rename

func TestRename(t *testing.T) {
	for _, c := range [][3]string{{"f(x:s, y:t, x())", "_1", "f(x_1:s, y_1:t, x())"}, {"x:s", "", "x:s"}, {"g(c())", "!", "g(c())"}, {"f(x:s, xa:t)", "a", "f(xa:s, xaa:t)"}} {
		x := parse(t, c[0])
		r, err := unify.Rename(x, c[1])
		if err != api.OK || !same(r, parse(t, c[2])) {
			t.Error(c, r, err)
		}
		spoil(x)
		if !same(r, parse(t, c[2])) {
			t.Error("the result shares memory with the argument")
		}
	}
	long := strings.Repeat("a", api.MaxName-1)
	if r, err := unify.Rename(variable("x", "s"), long); err != api.OK || r.Name != "x"+long {
		t.Error(r, err)
	}
	for _, c := range [][2]string{{"x:s", long + "a"}, {"x:s", "!"}, {"i:s", "f"}, {"f(a:s, i:s)", "f"}, {"x:s", " "}, {"x:s", strings.Repeat("a", 1<<20)}} {
		if r, err := unify.Rename(parse(t, c[0]), c[1]); err != api.ErrName || !isZero(r) {
			t.Error(c, r, err)
		}
	}
	for _, w := range wrong() {
		if r, err := unify.Rename(w, "!"); err != api.ErrArg || !isZero(r) {
			t.Error(r, err)
		}
	}
}
