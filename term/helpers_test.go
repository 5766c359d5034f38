package term_test

import (
	"reflect"
	"strconv"
	"strings"

	"heartwood/api"
)

func variable(name, sort string) api.Term { return api.Term{Name: name, Sort: sort} }

func op(name string, parts ...api.Term) api.Term { return api.Term{Name: name, L: parts} }

func decl(name, result string, args ...string) api.Decl {
	return api.Decl{Name: name, Args: args, Result: result}
}

func zero() api.Term        { return op("zero") }
func s(t api.Term) api.Term { return op("s", t) }
func nat(n string) api.Term { return variable(n, "nat") }
func peano() api.Signature {
	return signature([]string{"nat"}, decl("zero", "nat"), decl("s", "nat", "nat"))
}
func longName(c byte) string { return strings.Repeat(string(c), api.MaxName) }

func signature(sorts []string, ops ...api.Decl) api.Signature {
	return api.Signature{Sorts: sorts, Ops: ops}
}

// mixed is a signature with several sorts, and operations with 0 to MaxParams arguments.
func mixed() api.Signature {
	return signature([]string{"nat", "flag", "pile"},
		decl("zero", "nat"), decl("s", "nat", "nat"), decl("yes", "flag"), decl("empty", "pile"),
		decl("push", "pile", "nat", "pile"), decl("top", "nat", "pile"), decl("less", "flag", "nat", "nat"),
		decl("pick", "nat", "flag", "nat", "nat"), decl("six", "pile", "nat", "flag", "pile", "nat", "flag", "pile"))
}

// tower returns leaf with an operation around it, depth times.
func tower(depth int, leaf api.Term) api.Term {
	for range depth {
		leaf = s(leaf)
	}
	return leaf
}

// bush returns a term with n nodes, whose depth is small, and whose leaves are the given one.
func bush(n int, leaf api.Term) api.Term {
	if n == 1 {
		return leaf
	}
	n--
	t := op(longName('b'))
	for parts := min(n, api.MaxParams); parts > 0; parts-- {
		t.L = append(t.L, bush(n/parts, leaf))
		n -= n / parts
	}
	return t
}

// shared returns a term of the given depth whose two parts are the same slice of memory all the way down.
func shared(depth int) api.Term {
	t := zero()
	for range depth - 1 {
		l := []api.Term{t, t}
		t = op("f", l...)
	}
	return t
}

// circle returns a term that is a part of itself.
func circle() api.Term {
	l := make([]api.Term, 2)
	l[0] = op("f", l...)
	l[1] = op("f", l...)
	l[0].L, l[1].L = l, l
	return op("f", l...)
}

// wrong has terms that are not well-formed.
func wrong() map[string]api.Term {
	return map[string]api.Term{
		"no name":                   {},
		"variable without name":     variable("", "nat"),
		"keyword":                   op("if"),
		"keyword as variable":       variable("this", "nat"),
		"keyword as sort":           variable("x", "int"),
		"no sort name":              variable("x", "1"),
		"no name of a part":         op("f", zero(), op("g h")),
		"long name":                 op(longName('a') + "a"),
		"long sort":                 variable("x", longName('a')+"a"),
		"huge name":                 op(strings.Repeat("a", 1<<20)),
		"variable with a part":      {Name: "x", Sort: "nat", L: []api.Term{zero()}},
		"deep variable with a part": tower(5, api.Term{Name: "x", Sort: "nat", L: []api.Term{zero()}}),
		"too many parts":            op("f", make([]api.Term, api.MaxParams+1)...),
		"seven good parts":          op("f", zero(), zero(), zero(), zero(), zero(), zero(), zero()),
		"very many parts":           op("f", make([]api.Term, 1<<16)...),
		"too deep":                  tower(api.MaxNest, zero()),
		"far too deep":              tower(100000, zero()),
		"too many nodes":            bush(api.MaxSize+1, zero()),
		"far too many nodes":        bush(100000, zero()),
		"shared parts":              shared(api.MaxNest),
		"shared parts, too deep":    shared(api.MaxNest + 1),
		"circle":                    circle(),
		"two sorts":                 op("f", nat("x"), variable("x", "flag")),
		"two sorts far away":        op("f", s(s(nat("x"))), op("g", nat("y"), zero(), s(variable("x", "flag")))),
	}
}

// clone copies a term without the help of the package.
func clone(t api.Term) api.Term {
	r := api.Term{Name: t.Name, Sort: t.Sort}
	for _, part := range t.L {
		r.L = append(r.L, clone(part))
	}
	return r
}

// same reports whether terms are equal; nil and empty parts are the same.
func same(a, b api.Term) bool { return reflect.DeepEqual(clone(a), clone(b)) }

func isZero(t api.Term) bool { return t.Name == "" && t.Sort == "" && len(t.L) == 0 }

// spoil overwrites all nodes of a term.
func spoil(t api.Term) {
	for i := range t.L {
		spoil(t.L[i])
		t.L[i] = variable("spoilt", "spoilt")
	}
}

// places returns the paths of all nodes of t, in preorder.
func places(t api.Term) [][]int {
	all := [][]int{{}}
	for i, part := range t.L {
		for _, path := range places(part) {
			all = append(all, append([]int{i}, path...))
		}
	}
	return all
}

// walk returns the subterm at a path that exists.
func walk(t api.Term, path []int) api.Term {
	for _, i := range path {
		t = t.L[i]
	}
	return t
}

// small returns many different terms over a few names, with at most two parts a node, and a depth of at most 3.
func small() []api.Term {
	leaves := []api.Term{variable("a", "p"), variable("a", "q"), variable("b", "p"), op("a"), op("b"), op("b_")}
	var l []api.Term
	for _, x := range leaves {
		l = append(l, op("a", x))
		for _, y := range leaves {
			if x.Name != y.Name || x.Sort == "" || y.Sort == "" || x.Sort == y.Sort {
				l = append(l, op("b", x, y))
			}
		}
	}
	for _, x := range l {
		l = append(l, op("a", x), op("b", op("a"), x), op("b", x, op("a")))
	}
	return append(l, leaves...)
}

// numbers yields numbers by a fixed rule.
type numbers int

func (n *numbers) below(limit int) int {
	*n = *n * 48271 % 2147483647
	return int(*n) % limit
}

// random returns a valid term of a sort for mixed(); the variables are named by their sorts.
func random(n *numbers, sort string, depth int) api.Term {
	var fitting []api.Decl
	for _, d := range mixed().Ops {
		if d.Result == sort && (depth > 1 || len(d.Args) == 0) {
			fitting = append(fitting, d)
		}
	}
	k := n.below(len(fitting) + 1)
	if k == len(fitting) {
		return variable(sort+strconv.Itoa(n.below(3)), sort)
	}
	t := op(fitting[k].Name)
	for _, arg := range fitting[k].Args {
		t.L = append(t.L, random(n, arg, depth-1))
	}
	return t
}

// someTerms returns valid terms of all sorts for mixed().
func someTerms() map[string][]api.Term {
	terms := map[string][]api.Term{}
	n := numbers(7)
	for i := range 150 {
		sort := mixed().Sorts[i%3]
		terms[sort] = append(terms[sort], random(&n, sort, 1+i%5))
	}
	return terms
}
