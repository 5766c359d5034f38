package unify_test

import (
	"reflect"
	"strings"
	"testing"

	"heartwood/api"
	"heartwood/term"
)

func parse(t *testing.T, s string) api.Term {
	t.Helper()
	x, _, err := term.Parse(s)
	if err != api.OK {
		t.Fatal(s, err)
	}
	return x
}

// binds reads a substitution from texts: name, sort, term, name, sort, term, and so on.
func binds(t *testing.T, l ...string) []api.Binding {
	t.Helper()
	var s []api.Binding
	for i := 0; i < len(l); i += 3 {
		s = append(s, api.Binding{Name: l[i], Sort: l[i+1], T: parse(t, l[i+2])})
	}
	return s
}

func op(name string, parts ...api.Term) api.Term { return api.Term{Name: name, L: parts} }

func variable(name, sort string) api.Term { return api.Term{Name: name, Sort: sort} }

func tower(depth int, leaf api.Term) api.Term {
	for range depth {
		leaf = op("s", leaf)
	}
	return leaf
}

// bush returns a term of n nodes with a small depth and the leaves that next makes.
func bush(n int, next func() api.Term) api.Term {
	if n == 1 {
		return next()
	}
	n--
	t := op("b")
	for parts := min(n, api.MaxParams); parts > 0; parts-- {
		t.L = append(t.L, bush(n/parts, next))
		n -= n / parts
	}
	return t
}

func always(t api.Term) func() api.Term { return func() api.Term { return t } }

// wrong has terms that are not well-formed.
func wrong() []api.Term {
	return []api.Term{
		{}, op("if"), variable("x", "int"), op("f", variable("x", "s"), variable("x", "t")), tower(api.MaxNest, op("c")),
		bush(api.MaxSize+1, always(op("c"))), op("f", make([]api.Term, 7)...), {Name: "x", Sort: "s", L: []api.Term{op("c")}},
		op(strings.Repeat("a", api.MaxName+1)),
	}
}

func clone(t api.Term) api.Term {
	r := api.Term{Name: t.Name, Sort: t.Sort}
	for _, part := range t.L {
		r.L = append(r.L, clone(part))
	}
	return r
}

func same(a, b api.Term) bool { return reflect.DeepEqual(clone(a), clone(b)) }

func isZero(t api.Term) bool { return t.Name == "" && t.Sort == "" && len(t.L) == 0 }

func cloneAll(s []api.Binding) []api.Binding {
	l := []api.Binding{}
	for _, b := range s {
		l = append(l, api.Binding{Name: b.Name, Sort: b.Sort, T: clone(b.T)})
	}
	return l
}

func sameAll(a, b []api.Binding) bool { return reflect.DeepEqual(cloneAll(a), cloneAll(b)) }

func spoil(t api.Term) {
	for i := range t.L {
		spoil(t.L[i])
		t.L[i] = variable("spoilt", "spoilt")
	}
}

// replaced applies a substitution without the help of the package.
func replaced(s []api.Binding, t api.Term) api.Term {
	for _, b := range s {
		if t.Sort != "" && b.Name == t.Name && b.Sort == t.Sort {
			return clone(b.T)
		}
	}
	r := api.Term{Name: t.Name, Sort: t.Sort}
	for _, part := range t.L {
		r.L = append(r.L, replaced(s, part))
	}
	return r
}

// small returns terms over few names: variables of two sorts, constants, and operations with one and two parts.
func small() []api.Term {
	leaves := []api.Term{variable("x", "s"), variable("y", "s"), variable("z", "t"), op("c"), op("d")}
	l := append([]api.Term{}, leaves...)
	for _, a := range leaves {
		l = append(l, op("g", a))
		for _, b := range leaves {
			l = append(l, op("f", a, b))
		}
	}
	for _, a := range leaves {
		for _, b := range leaves {
			l = append(l, op("f", op("g", a), b), op("f", b, op("f", a, a)), op("f", op("f", a, b), op("g", b)))
		}
	}
	return l
}
