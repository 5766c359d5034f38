package unify_test

import (
	"strconv"
	"strings"
	"testing"

	"heartwood/api"
	"heartwood/term"
	"heartwood/unify"
)

// P5.3

func TestMatch(t *testing.T) {
	for _, c := range []struct {
		p, x string
		want []string
	}{
		{"c()", "c()", nil},
		{"x:s", "c()", []string{"x", "s", "c()"}},
		{"x:s", "x:s", nil},
		{"x:s", "y:s", []string{"x", "s", "y:s"}},
		{"x:s", "f(x:s)", []string{"x", "s", "f(x:s)"}},
		{"f(x:s, y:s)", "f(y:s, x:s)", []string{"x", "s", "y:s", "y", "s", "x:s"}},
		{"f(x:s, y:s)", "f(x:s, x:s)", []string{"y", "s", "x:s"}},
		{"f(x:s, g(z:t), x:s)", "f(h(a:s), g(c()), h(a:s))", []string{"x", "s", "h(a:s)", "z", "t", "c()"}},
		{"f(x:s)", "f(h(k(m(a:s), b()), c()))", []string{"x", "s", "h(k(m(a:s), b()), c())"}},
		{"f(b:s, a:s)", "f(c(), d())", []string{"a", "s", "d()", "b", "s", "c()"}},
	} {
		p, x := parse(t, c.p), parse(t, c.x)
		s, err := unify.Match(p, x)
		if err != api.OK || !sameAll(s, binds(t, c.want...)) {
			t.Error(c, s, err)
		}
		spoil(p)
		spoil(x)
		if !sameAll(s, binds(t, c.want...)) {
			t.Error("the result shares memory with an argument")
		}
	}
	for _, c := range []struct {
		p, x string
		want api.Errno
	}{
		{"c()", "d()", api.ErrNone}, {"c()", "c(d())", api.ErrNone}, {"f(x:s, x:s)", "f(c(), d())", api.ErrNone}, {"c()", "x:s", api.ErrNone},
		{"x:s", "y:t", api.ErrNone}, {"f(x:s)", "f(y:t)", api.ErrNone}, {"f(x:s, x:s)", "f(x:s, y:s)", api.ErrNone}, {"f(x:s, g(x:s))", "f(g(x:s), x:s)", api.ErrNone},
		{"x:s", "x:t", api.ErrType}, {"f(x:s, c())", "g(x:t)", api.ErrType}, {"x:s", "f(x:t)", api.ErrType}, {"f(y:s)", "g(z:t, y:u)", api.ErrType},
	} {
		if s, err := unify.Match(parse(t, c.p), parse(t, c.x)); err != c.want || len(s) != 0 {
			t.Error(c, s, err)
		}
	}
	for _, w := range wrong() {
		for _, x := range []api.Term{w, variable("x", "t"), op("c")} {
			if s, err := unify.Match(w, x); err != api.ErrArg || len(s) != 0 {
				t.Error(s, err)
			}
			if s, err := unify.Match(x, w); err != api.ErrArg || len(s) != 0 {
				t.Error(s, err)
			}
		}
	}
}

// matches looks for a substitution by trying what stands at the places of the variables.
func matches(p, x api.Term) ([]api.Binding, bool) {
	found := map[string]api.Term{}
	var collect func(p, x api.Term)
	collect = func(p, x api.Term) {
		if p.Sort != "" {
			found[p.Name] = x
			return
		}
		for i := range min(len(p.L), len(x.L)) {
			collect(p.L[i], x.L[i])
		}
	}
	collect(p, x)
	vars, _ := term.Vars(p)
	var s []api.Binding
	for _, v := range vars {
		u, ok := found[v.Name]
		if !ok || u.Sort != "" && u.Sort != v.Type {
			return nil, false
		}
		if u.Sort == "" || u.Name != v.Name {
			s = append(s, api.Binding{Name: v.Name, Sort: v.Type, T: u})
		}
	}
	return s, same(replaced(s, p), x)
}

func TestMatchOfAll(t *testing.T) {
	for _, p := range small() {
		for _, x := range small() {
			want, ok := matches(p, x)
			got, err := unify.Match(p, x)
			if ok != (err == api.OK) || !ok && err != api.ErrNone || ok && !sameAll(got, want) {
				t.Fatal(p, x, got, err)
			}
			instance, err := unify.Instance(p, x)
			if instance != ok || err != api.OK {
				t.Fatal(p, x, instance, err)
			}
			if _, back := matches(x, p); true {
				if variant, err := unify.Variant(p, x); variant != (ok && back) || err != api.OK {
					t.Fatal(p, x, variant, err)
				}
			}
		}
	}
}

// P5.4

func TestUnify(t *testing.T) {
	for _, c := range []struct {
		a, b string
		want []string
	}{
		{"f(x:s, g(y:s))", "f(g(z:s), x:s)", []string{"x", "s", "g(y:s)", "z", "s", "y:s"}},
		{"c()", "c()", nil},
		{"x:s", "x:s", nil},
		{"x:s", "y:s", []string{"y", "s", "x:s"}},
		{"f(y:s, z:s, b:s)", "f(z:s, b:s, x:s)", []string{"x", "s", "b:s", "y", "s", "b:s", "z", "s", "b:s"}},
		{"f(x:s, x:s)", "f(y:s, g(c()))", []string{"x", "s", "g(c())", "y", "s", "g(c())"}},
		{"f(x:s, x:s, y:t)", "f(y:t, c(), c())", []string{"x", "s", "c()", "y", "t", "c()"}},
		{"f(x:s, y:t, z:u)", "f(y:t, z:u, g(a:s))", []string{"x", "s", "g(a:s)", "y", "t", "g(a:s)", "z", "u", "g(a:s)"}},
		{"f(x:s, g(b:s), a:s)", "f(g(y:s), x:s, y:s)", []string{"b", "s", "a:s", "x", "s", "g(a:s)", "y", "s", "a:s"}},
		{"f(x:s, x:s)", "f(g(a:s, c()), g(d(), b:t))", []string{"a", "s", "d()", "b", "t", "c()", "x", "s", "g(d(), c())"}},
	} {
		for _, pair := range [][2]string{{c.a, c.b}, {c.b, c.a}} {
			a, b := parse(t, pair[0]), parse(t, pair[1])
			s, err := unify.Unify(a, b)
			if err != api.OK || !sameAll(s, binds(t, c.want...)) {
				t.Error(pair, s, err)
			}
			spoil(a)
			spoil(b)
			if !sameAll(s, binds(t, c.want...)) {
				t.Error("the result shares memory with an argument")
			}
		}
	}
	for _, c := range []struct {
		a, b string
		want api.Errno
	}{
		{"f(x:s, x:s)", "f(y:s, g(y:s))", api.ErrNone}, {"c()", "d()", api.ErrNone}, {"f(c())", "f(c(), c())", api.ErrNone}, {"x:s", "g(x:s)", api.ErrNone},
		{"x:s", "y:t", api.ErrNone}, {"f(x:s, y:s)", "f(y:s, z:t)", api.ErrNone}, {"f(x:s, y:t)", "f(z:u, z:u)", api.ErrNone}, {"f(x:s, y:s)", "f(g(y:s), g(x:s))", api.ErrNone},
		{"f(x:s, c())", "f(g(y:t), d())", api.ErrNone},
		{"x:s", "x:t", api.ErrType}, {"f(x:s)", "g(h(x:t))", api.ErrType},
	} {
		for _, pair := range [][2]string{{c.a, c.b}, {c.b, c.a}} {
			if s, err := unify.Unify(parse(t, pair[0]), parse(t, pair[1])); err != c.want || len(s) != 0 {
				t.Error(pair, s, err)
			}
		}
	}
	for _, w := range wrong() {
		for _, x := range []api.Term{w, variable("x", "t"), op("c")} {
			if s, err := unify.Unify(w, x); err != api.ErrArg || len(s) != 0 {
				t.Error(s, err)
			}
			if s, err := unify.Unify(x, w); err != api.ErrArg || len(s) != 0 {
				t.Error(s, err)
			}
		}
	}
}

// doubling returns two terms whose unifier has terms with 2^n leaves, and n more in depth.
func doubling(n int, last, other string) (api.Term, api.Term) {
	a, b := variable("x0", "s"), op(other)
	for i := range n {
		x, y := variable("x"+strconv.Itoa(i), "s"), variable("x"+strconv.Itoa(i+1), "s")
		a, b = op("f", y, a), op("f", op("g", x, x), b)
	}
	return op("h", a, op(last)), op("h", b, op("c"))
}

func TestUnifyLimits(t *testing.T) {
	a, b := doubling(8, "c", "c")
	if s, err := unify.Unify(a, b); err != api.OK || term.Size(s[8].T) != 511 {
		t.Error(len(s), err)
	}
	a, b = doubling(9, "c", "c")
	if s, err := unify.Unify(a, b); err != api.ErrFull || len(s) != 0 {
		t.Error(len(s), err)
	}
	a, b = doubling(50, "c", "c")
	if s, err := unify.Unify(a, b); err != api.ErrFull || len(s) != 0 {
		t.Error(len(s), err)
	}
	// That there is no unifier comes first.
	a, b = doubling(50, "d", "c")
	if s, err := unify.Unify(a, b); err != api.ErrNone || len(s) != 0 {
		t.Error(len(s), err)
	}
	a, b = doubling(50, "c", "c")
	if s, err := unify.Unify(op("p", a, variable("u", "s")), op("p", b, variable("v", "t"))); err != api.ErrNone || len(s) != 0 {
		t.Error(len(s), err)
	}
	// Depth: x becomes a term around y, and y one around z.
	deep := func(n, m int) ([]api.Binding, api.Errno) {
		return unify.Unify(op("f", variable("x", "s"), variable("y", "s")), op("f", tower(n, variable("y", "s")), tower(m, op("c"))))
	}
	if s, err := deep(30, api.MaxNest-31); err != api.OK || term.Depth(s[0].T) != api.MaxNest {
		t.Error(s, err)
	}
	if s, err := deep(30, api.MaxNest-30); err != api.ErrFull || len(s) != 0 {
		t.Error(s, err)
	}
	if s, err := unify.Unify(variable("x", "s"), bush(api.MaxSize, always(variable("y", "s")))); err != api.OK || term.Size(s[0].T) != api.MaxSize {
		t.Error(len(s), err)
	}
	// Only what variables become is limited, not what both terms become.
	x := variable("x", "s")
	most := bush(900, always(op("c")))
	if s, err := unify.Unify(op("f", x, x, x), op("f", x, most, variable("y", "s"))); err != api.OK || len(s) != 2 || !same(s[1].T, most) {
		t.Error(len(s), err)
	}
}

// robinson unifies by the textbook's rules, one equation after the other; it knows variables of one sort each.
func robinson(a, b api.Term) ([]api.Binding, bool) {
	var s []api.Binding
	todo := [][2]api.Term{{a, b}}
	for len(todo) > 0 {
		l, r := replaced(s, todo[0][0]), replaced(s, todo[0][1])
		todo = todo[1:]
		if r.Sort != "" && (l.Sort == "" || l.Name < r.Name) {
			l, r = r, l
		}
		switch {
		case same(l, r):
		case l.Sort != "":
			if r.Sort != "" && r.Sort != l.Sort || occurs(l.Name, r) {
				return nil, false
			}
			one := []api.Binding{{Name: l.Name, Sort: l.Sort, T: r}}
			for i := range s {
				s[i].T = replaced(one, s[i].T)
			}
			s = append(s, one...)
		case l.Name != r.Name || len(l.L) != len(r.L):
			return nil, false
		default:
			for i := range l.L {
				todo = append(todo, [2]api.Term{l.L[i], r.L[i]})
			}
		}
	}
	return s, true
}

func occurs(name string, t api.Term) bool {
	text, _ := term.Text(t)
	return strings.Contains(text, name+":")
}

// P5.4 and P5.6: unifiers of many pairs.
func TestUnifyOfAll(t *testing.T) {
	l := small()
	for _, a := range l {
		for _, b := range l {
			_, want := robinson(a, b)
			s, err := unify.Unify(a, b)
			if want && err != api.OK {
				t.Fatal(a, b, err)
			}
			back, backErr := unify.Unify(b, a)
			if err != backErr || !sameAll(s, back) {
				t.Fatal(a, b, s, back)
			}
			if err != api.OK {
				if err != api.ErrNone || len(s) != 0 {
					t.Fatal(a, b, s, err)
				}
				continue
			}
			checkUnifier(t, a, b, s)
			if r, ok := robinson(a, b); ok {
				checkGeneral(t, a, s, r)
			}
		}
	}
}

func checkUnifier(t *testing.T, a, b api.Term, s []api.Binding) {
	t.Helper()
	x, err1 := unify.Apply(s, a)
	y, err2 := unify.Apply(s, b)
	if err1 != api.OK || err2 != api.OK || !same(x, y) || !unify.Valid(s) {
		t.Fatal(a, b, s)
	}
	if again, err := unify.Apply(s, x); err != api.OK || !same(again, x) {
		t.Fatal("not idempotent", a, b, s)
	}
	for _, c := range s {
		if !occurs(c.Name, a) && !occurs(c.Name, b) {
			t.Fatal("another variable", a, b, s)
		}
		if c.T.Sort != "" && c.T.Name > c.Name {
			t.Fatal("not the least name", a, b, s)
		}
	}
}

// checkGeneral: the unifier r, whose variables are named in another way, must be made from s, and s from r.
func checkGeneral(t *testing.T, a api.Term, s, r []api.Binding) {
	t.Helper()
	if ok, _ := unify.Variant(replaced(s, a), replaced(r, a)); !ok {
		t.Fatal(a, s, r)
	}
}

// P5.5

func TestVariantAndInstance(t *testing.T) {
	for _, c := range []struct {
		a, b              string
		variant, instance bool
	}{
		{"f(x:s, y:s)", "f(y:s, x:s)", true, true}, {"f(x:s, y:s)", "f(x:s, x:s)", false, true}, {"f(x:s, x:s)", "f(x:s, y:s)", false, false},
		{"f(x:s)", "f(x:t)", false, false}, {"f(x:s)", "f(c())", false, true}, {"f(x:s)", "f(f(x:t))", false, true}, {"c()", "c()", true, true}, {"c()", "c(c())", false, false},
		{"x:s", "x:t", false, false}, {"x:s", "z:s", true, true}, {"f(x:s, y:t)", "f(y:s, x:t)", true, true}, {"f(x:s, y:s)", "f(y:s, g(x:t))", false, true},
		{"f(x:s, x:s)", "f(g(x:t), g(x:t))", false, true}, {"f(x:s, y:s, z:s)", "f(a:s, a:s, b:s)", false, true}, {"f(a:s, a:s, b:s)", "f(x:s, y:s, z:s)", false, false},
	} {
		a, b := parse(t, c.a), parse(t, c.b)
		if v, err := unify.Variant(a, b); v != c.variant || err != api.OK {
			t.Error(c, v, err)
		}
		if v, err := unify.Variant(b, a); v != c.variant || err != api.OK {
			t.Error(c, v, err)
		}
		if v, err := unify.Instance(a, b); v != c.instance || err != api.OK {
			t.Error(c, v, err)
		}
	}
	for _, w := range wrong() {
		for _, x := range []api.Term{w, op("c")} {
			for i, f := range []func(a, b api.Term) (bool, api.Errno){unify.Variant, unify.Instance} {
				if v, err := f(w, x); v || err != api.ErrArg {
					t.Error(i, v, err)
				}
				if v, err := f(x, w); v || err != api.ErrArg {
					t.Error(i, v, err)
				}
			}
		}
	}
}
