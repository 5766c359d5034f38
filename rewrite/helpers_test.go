package rewrite_test

import (
	"reflect"
	"strings"
	"testing"

	"heartwood/api"
	"heartwood/term"
)

func parse(t *testing.T, s string) api.Term {
	t.Helper()
	x, _, err := term.Parse(s)
	if err != api.OK {
		t.Fatal(s, err)
	}
	return x
}

// rules reads rules from texts with an equals sign.
func rules(t *testing.T, l ...string) []api.Rule {
	t.Helper()
	var r []api.Rule
	for _, s := range l {
		left, right, _ := strings.Cut(s, " = ")
		r = append(r, api.Rule{Left: parse(t, left), Right: parse(t, right)})
	}
	return r
}

func op(name string, parts ...api.Term) api.Term { return api.Term{Name: name, L: parts} }

func variable(name, sort string) api.Term { return api.Term{Name: name, Sort: sort} }

func tower(depth int, leaf api.Term) api.Term {
	for range depth {
		leaf = op("s", leaf)
	}
	return leaf
}

// bush returns a term of n nodes with a small depth.
func bush(n int, leaf api.Term) api.Term {
	if n == 1 {
		return leaf
	}
	n--
	t := op("b")
	for parts := min(n, api.MaxParams); parts > 0; parts-- {
		t.L = append(t.L, bush(n/parts, leaf))
		n -= n / parts
	}
	return t
}

func wrongTerms() []api.Term {
	return []api.Term{
		{}, op("if"), op("f", variable("x", "s"), variable("x", "t")), tower(api.MaxNest, op("c")), bush(api.MaxSize+1, op("c")),
		op("f", make([]api.Term, 7)...), {Name: "x", Sort: "s", L: []api.Term{op("c")}},
	}
}

func wrongRules(t *testing.T) [][]api.Rule {
	good := rules(t, "f(x:s) = x:s")
	l := [][]api.Rule{
		rules(t, "x:s = c()"), rules(t, "f(x:s) = y:s"), rules(t, "f(x:s) = x:t"), rules(t, "f(x:s) = g(x:s, y:s)"), rules(t, "c() = x:s"),
		make([]api.Rule, 1), repeat(good[0], api.MaxRules+1), append(rules(t, "f(x:s) = c()"), rules(t, "x:s = x:s")...),
	}
	for _, w := range wrongTerms() {
		l = append(l, []api.Rule{{Left: w, Right: op("c")}}, []api.Rule{{Left: op("c"), Right: w}}, append(rules(t, "f(x:s) = c()"), api.Rule{Left: w, Right: w}))
	}
	return l
}

func repeat(r api.Rule, n int) []api.Rule {
	var l []api.Rule
	for range n {
		l = append(l, r)
	}
	return l
}

func clone(t api.Term) api.Term {
	r := api.Term{Name: t.Name, Sort: t.Sort}
	for _, part := range t.L {
		r.L = append(r.L, clone(part))
	}
	return r
}

func same(a, b api.Term) bool { return reflect.DeepEqual(clone(a), clone(b)) }

func isZero(t api.Term) bool { return t.Name == "" && t.Sort == "" && len(t.L) == 0 }

func spoil(t api.Term) {
	for i := range t.L {
		spoil(t.L[i])
		t.L[i] = variable("spoilt", "spoilt")
	}
}

func spoilRules(l []api.Rule) {
	for i := range l {
		spoil(l[i].Left)
		spoil(l[i].Right)
	}
}

func text(t api.Term) string {
	s, _ := term.Text(t)
	return s
}

// The oracle: another way to rewrite, over texts of subterms and all places.

// places returns the paths of t in postorder.
func places(t api.Term) [][]int {
	var all [][]int
	for i, part := range t.L {
		for _, p := range places(part) {
			all = append(all, append([]int{i}, p...))
		}
	}
	return append(all, []int{})
}

func walk(t api.Term, path []int) api.Term {
	for _, i := range path {
		t = t.L[i]
	}
	return t
}

func fits(pattern, t api.Term, seen map[string]string, terms map[string]api.Term) bool {
	if pattern.Sort != "" {
		if t.Sort != "" && t.Sort != pattern.Sort {
			return false
		}
		if old, ok := seen[pattern.Name]; ok {
			return old == text(t)
		}
		seen[pattern.Name], terms[pattern.Name] = text(t), t
		return true
	}
	if t.Sort != "" || pattern.Name != t.Name || len(pattern.L) != len(t.L) {
		return false
	}
	for i := range t.L {
		if !fits(pattern.L[i], t.L[i], seen, terms) {
			return false
		}
	}
	return true
}

func filled(t api.Term, terms map[string]api.Term) api.Term {
	if t.Sort != "" {
		return clone(terms[t.Name])
	}
	r := api.Term{Name: t.Name}
	for _, part := range t.L {
		r.L = append(r.L, filled(part, terms))
	}
	return r
}

// oracleAt replaces the redex of a rule at a path.
func oracleAt(r api.Rule, t api.Term, path []int) (api.Term, bool) {
	terms := map[string]api.Term{}
	if !fits(r.Left, walk(t, path), map[string]string{}, terms) {
		return api.Term{}, false
	}
	u := filled(r.Right, terms)
	x := clone(t)
	p := &x
	for _, i := range path {
		p = &p.L[i]
	}
	*p = u
	return x, true
}

func oracleStep(l []api.Rule, t api.Term) (api.Term, api.Redex, bool) {
	for _, path := range places(t) {
		for i, r := range l {
			if u, ok := oracleAt(r, t, path); ok {
				return u, api.Redex{Rule: i, Path: path}, true
			}
		}
	}
	return api.Term{}, api.Redex{}, false
}

// numbers yields numbers by a fixed rule.
type numbers int

func (n *numbers) below(limit int) int {
	*n = *n * 48271 % 2147483647
	return int(*n) % limit
}

func random(n *numbers, depth int) api.Term {
	leaves := []api.Term{op("a"), op("b"), op("z"), variable("x", "s"), variable("y", "s"), variable("u", "t")}
	if depth == 1 || n.below(4) == 0 {
		return leaves[n.below(len(leaves))]
	}
	names := []string{"f", "g", "p", "s"}
	switch k := n.below(len(names)); names[k] {
	case "s":
		return op("s", random(n, depth-1))
	default:
		return op(names[k], random(n, depth-1), random(n, depth-1))
	}
}

// systems has rules that end, most of them with several redexes in a term, and with variables named as in the terms.
func systems(t *testing.T) [][]api.Rule {
	return [][]api.Rule{
		rules(t, "p(z(), y:s) = y:s", "p(s(x:s), y:s) = s(p(x:s, y:s))"),
		rules(t, "f(x:s, x:s) = x:s", "f(x:s, y:s) = g(y:s, x:s)", "g(x:s, a()) = a()"),
		rules(t, "g(x:t, y:s) = y:s", "g(a(), x:t) = x:t", "f(f(x:s, y:s), u:s) = f(x:s, f(y:s, u:s))", "a() = b()"),
		rules(t, "s(s(x:s)) = x:s", "s(a()) = b()", "f(x:s, y:s) = x:s", "p(x:s, y:s) = f(y:s, y:s)"),
		rules(t, "p(x:s, f(y:s, u:s)) = f(p(x:s, y:s), p(x:s, u:s))", "g(g(x:s, y:s), y:s) = x:s"),
	}
}
