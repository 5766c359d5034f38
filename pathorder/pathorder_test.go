package pathorder_test

import (
	"reflect"
	"slices"
	"strconv"
	"strings"
	"testing"

	"heartwood/api"
	"heartwood/pathorder"
	"heartwood/rewrite"
	"heartwood/term"
)

func parse(t *testing.T, s string) api.Term {
	t.Helper()
	x, _, err := term.Parse(s)
	if err != api.OK {
		t.Fatal(s, err)
	}
	return x
}

func rules(t *testing.T, l ...string) []api.Rule {
	t.Helper()
	var r []api.Rule
	for _, s := range l {
		left, right, _ := strings.Cut(s, " = ")
		r = append(r, api.Rule{Left: parse(t, left), Right: parse(t, right)})
	}
	return r
}

func op(name string, parts ...api.Term) api.Term { return api.Term{Name: name, L: parts} }

func variable(name, sort string) api.Term { return api.Term{Name: name, Sort: sort} }

func tower(depth int, leaf api.Term) api.Term {
	for range depth {
		leaf = op("s", leaf)
	}
	return leaf
}

func wrongTerms() []api.Term {
	return []api.Term{{}, op("if"), op("f", variable("x", "s"), variable("x", "t")), tower(api.MaxNest, op("c")), op("f", make([]api.Term, 7)...), {Name: "x", Sort: "s", L: []api.Term{op("c")}}}
}

// names returns n different names.
func names(n int) []string {
	var l []string
	for i := range n {
		l = append(l, "n"+strconv.Itoa(i))
	}
	return l
}

func wrongPrecedences() [][]string {
	return [][]string{{"f", "f"}, {"f", "if"}, {""}, {"f", "1"}, {strings.Repeat("a", api.MaxName+1)}, names(api.MaxRules + 1), {"f", "g", "c", "s", "f"}}
}

// oracle follows the definition, case by case.
func oracle(ops []string, s, t api.Term) bool {
	if s.Sort != "" {
		return false
	}
	if t.Sort != "" && occurs(s, t) {
		return true
	}
	for _, part := range s.L {
		if reflect.DeepEqual(part, t) || oracle(ops, part, t) {
			return true
		}
	}
	if t.Sort != "" || slices.ContainsFunc(t.L, func(part api.Term) bool { return !oracle(ops, s, part) }) {
		return false
	}
	if s.Name != t.Name {
		return slices.Index(ops, s.Name) < slices.Index(ops, t.Name)
	}
	if len(s.L) != len(t.L) {
		return false
	}
	for i := range s.L {
		if !reflect.DeepEqual(s.L[i], t.L[i]) {
			return oracle(ops, s.L[i], t.L[i])
		}
	}
	return false
}

func occurs(s, v api.Term) bool {
	return reflect.DeepEqual(s, v) || slices.ContainsFunc(s.L, func(part api.Term) bool { return occurs(part, v) })
}

// small returns terms over f, g, c, d, and variables.
func small() []api.Term {
	leaves := []api.Term{variable("x", "s"), variable("y", "s"), variable("x", "t"), op("c"), op("d")}
	l := slices.Clone(leaves)
	pair := func(a, b api.Term) bool { return !(a.Name == b.Name && a.Sort != b.Sort) }
	for _, a := range leaves {
		l = append(l, op("g", a), op("f", op("g", a)), op("g", op("g", a)))
		for _, b := range leaves {
			if pair(a, b) {
				l = append(l, op("f", a, b), op("g", op("f", a, b)), op("f", op("g", a), b), op("f", a, op("f", b, a)))
			}
		}
	}
	return l
}

// P8.1

func wantGreater(t *testing.T, ops, a, b string, want bool) {
	t.Helper()
	if r, err := pathorder.Greater(strings.Fields(ops), parse(t, a), parse(t, b)); r != want || err != api.OK {
		t.Errorf("Greater(%s, %s, %s) = %v %v", ops, a, b, r, err)
	}
}

func TestGreater(t *testing.T) {
	ops := "times plus s zero"
	wantGreater(t, ops, "plus(s(N:nat), M:nat)", "s(plus(N:nat, M:nat))", true)
	wantGreater(t, ops, "s(plus(N:nat, M:nat))", "plus(s(N:nat), M:nat)", false)
	wantGreater(t, ops, "plus(s(N:nat), M:nat)", "plus(N:nat, M:nat)", true)
	wantGreater(t, ops, "plus(N:nat, s(M:nat))", "plus(s(N:nat), M:nat)", false)
	wantGreater(t, ops, "plus(s(N:nat), M:nat)", "plus(N:nat, s(M:nat))", true)
	wantGreater(t, ops, "times(s(N:nat), M:nat)", "plus(M:nat, times(N:nat, M:nat))", true)
	wantGreater(t, ops, "plus(N:nat, M:nat)", "times(N:nat, M:nat)", false)
	wantGreater(t, ops, "s(N:nat)", "N:nat", true)
	wantGreater(t, ops, "s(N:nat)", "M:nat", false)
	wantGreater(t, ops, "N:nat", "N:nat", false)
	wantGreater(t, ops, "N:nat", "zero()", false)
	wantGreater(t, ops, "s(zero())", "zero()", true)
	wantGreater(t, ops, "zero()", "zero()", false)
	wantGreater(t, "f c", "f(X:a)", "X:b", false)
	wantGreater(t, "f c", "f(c(), c())", "f(c())", false)
	wantGreater(t, "f c", "f(c())", "f(c(), c())", false)
	wantGreater(t, "f c", "f(c(), c(f()), X:a)", "f(c(), c(), X:a)", true)
	wantGreater(t, "f c", "f(c(), X:a, c(f()))", "f(c(), Y:a, c())", false)
	wantGreater(t, "a", "X:b", "Y:b", false)
}

func TestGreaterErrors(t *testing.T) {
	want := func(ops []string, a, b api.Term, want api.Errno) {
		t.Helper()
		if r, err := pathorder.Greater(ops, a, b); r || err != want {
			t.Error(r, err)
		}
	}
	for _, ops := range wrongPrecedences() {
		want(ops, op("f"), op("g"), api.ErrArg)
	}
	for _, x := range wrongTerms() {
		want([]string{"f"}, x, op("g"), api.ErrArg)
		want([]string{"f"}, op("g"), x, api.ErrArg)
	}
	want([]string{"f"}, op("f", op("g")), op("f"), api.ErrName)
	want([]string{"f"}, op("f", op("f")), op("g"), api.ErrName)
	want([]string{"f"}, variable("x", "s"), op("f", op("g")), api.ErrName)
	want(nil, op("f"), op("f"), api.ErrName)
	if r, err := pathorder.Greater(nil, variable("x", "s"), variable("x", "s")); r || err != api.OK {
		t.Error(r, err)
	}
	if r, err := pathorder.Greater(append(names(api.MaxRules-1), "s"), tower(2, variable("x", "s")), variable("x", "s")); !r || err != api.OK {
		t.Error(r, err)
	}
}

// P8.1 and P8.5: all pairs of small terms, and what follows for them.
func TestGreaterOfAll(t *testing.T) {
	l := small()
	for _, ops := range [][]string{{"f", "g", "c", "d"}, {"d", "c", "g", "f"}, {"c", "g", "d", "f"}} {
		above := map[[2]int]bool{}
		for i, a := range l {
			for k, b := range l {
				r, err := pathorder.Greater(ops, a, b)
				if err != api.OK || r != oracle(ops, a, b) {
					t.Fatal(ops, a, b, r, err)
				}
				above[[2]int{i, k}] = r
				ground := !strings.Contains(show(a)+show(b), ":")
				if ground && i != k && r == oracle(ops, b, a) && !reflect.DeepEqual(a, b) && valid(a) && valid(b) {
					t.Fatal("neither is greater", ops, a, b)
				}
			}
			for _, part := range a.L {
				if r, _ := pathorder.Greater(ops, a, part); !r {
					t.Fatal("not greater than its part", a, part)
				}
			}
		}
		for i := range l {
			if above[[2]int{i, i}] {
				t.Fatal("greater than itself", l[i])
			}
			for k := range l {
				for m := range l {
					if above[[2]int{i, k}] && above[[2]int{k, m}] && !above[[2]int{i, m}] {
						t.Fatal("not transitive", l[i], l[k], l[m])
					}
				}
			}
		}
	}
}

func show(x api.Term) string {
	s, _ := term.Text(x)
	return s
}

// valid reports whether g has one part, and f two, everywhere: only then terms of one signature are compared.
func valid(x api.Term) bool {
	arity := map[string]int{"f": 2, "g": 1}
	return len(x.L) == arity[x.Name] && !slices.ContainsFunc(x.L, func(part api.Term) bool { return !valid(part) })
}

// P8.5: a term becomes less if a part becomes less.
func TestReplacedParts(t *testing.T) {
	ops := []string{"g", "c", "f", "d"}
	l := small()
	for _, a := range l {
		for _, b := range l {
			if r, _ := pathorder.Greater(ops, a, b); !r {
				continue
			}
			for _, other := range []api.Term{op("c"), variable("z", "u"), op("g", op("d"))} {
				for _, pair := range [][2]api.Term{{op("f", a, other), op("f", b, other)}, {op("f", other, a), op("f", other, b)}, {op("g", op("f", other, a)), op("g", op("f", other, b))}} {
					if r, err := pathorder.Greater(ops, pair[0], pair[1]); !r || err != api.OK {
						t.Fatal(pair, r, err)
					}
				}
			}
		}
	}
}

// The comparison of large terms with many equal parts must end soon.
func TestGreaterOfLargeTerms(t *testing.T) {
	a, b := op("c"), op("d")
	for range 8 {
		a, b = op("f", a, a), op("f", b, b)
	}
	if r, err := pathorder.Greater([]string{"f", "c", "d"}, a, b); !r || err != api.OK {
		t.Error(r, err)
	}
	if r, err := pathorder.Greater([]string{"f", "d", "c"}, a, b); r || err != api.OK {
		t.Error(r, err)
	}
	if r, err := pathorder.Greater([]string{"s", "c"}, tower(59, op("c")), tower(58, op("c"))); !r || err != api.OK {
		t.Error(r, err)
	}
}

// P8.2

func TestDecreasing(t *testing.T) {
	ops := []string{"times", "plus", "s", "zero"}
	l := rules(t, "plus(zero(), N:nat) = N:nat", "plus(s(N:nat), M:nat) = s(plus(N:nat, M:nat))", "times(zero(), N:nat) = zero()", "times(s(N:nat), M:nat) = plus(M:nat, times(N:nat, M:nat))")
	want := func(ops []string, l []api.Rule, ok bool, index int, want api.Errno) {
		t.Helper()
		if r, i, err := pathorder.Decreasing(ops, l); r != ok || i != index || err != want {
			t.Error(r, i, err)
		}
	}
	want(ops, l, true, -1, api.OK)
	want(ops, nil, true, -1, api.OK)
	want([]string{"plus", "times", "s", "zero"}, l, false, 3, api.OK)
	want([]string{"s", "times", "plus", "zero"}, l, false, 1, api.OK)
	want(ops, append(l, rules(t, "zero() = zero()", "zero() = s(zero())")...), false, 4, api.OK)
	want(ops, rules(t, "N:nat = N:nat"), false, 0, api.OK)
	want(ops, rules(t, "s(N:nat) = N:nat", "N:nat = zero()"), false, 1, api.OK)
	for _, bad := range wrongPrecedences() {
		want(bad, l, false, 0, api.ErrArg)
	}
	many := slices.Repeat(l[:1], api.MaxRules+1)
	for _, x := range wrongTerms() {
		want(ops, []api.Rule{{Left: x, Right: op("zero")}}, false, 0, api.ErrArg)
		want(ops, []api.Rule{{Left: op("one"), Right: x}}, false, 0, api.ErrArg)
		want(ops, append(slices.Clone(many), api.Rule{Left: x, Right: x}), false, 0, api.ErrArg)
	}
	want(ops, many, false, 0, api.ErrFull)
	want(nil, many, false, 0, api.ErrFull)
	want(ops, many[1:], true, -1, api.OK)
	want(ops[1:], l, false, 0, api.ErrName)
	want(ops, rules(t, "zero() = s(zero())", "s(zero()) = one()"), false, 0, api.ErrName)
}

// P8.3

func wantFound(t *testing.T, l []api.Rule, want string) {
	t.Helper()
	ops, err := pathorder.Find(l)
	if err != api.OK || strings.Join(ops, " ") != want {
		t.Error(ops, err, "want", want)
	}
}

func wantNotFound(t *testing.T, l []api.Rule, want api.Errno) {
	t.Helper()
	if ops, err := pathorder.Find(l); err != want || len(ops) != 0 {
		t.Error(ops, err, "want", want)
	}
}

func TestFind(t *testing.T) {
	wantFound(t, nil, "")
	wantFound(t, rules(t, "plus(s(N:nat), M:nat) = s(plus(N:nat, M:nat))"), "plus s")
	wantFound(t, rules(t, "times(s(N:nat), M:nat) = plus(M:nat, times(N:nat, M:nat))", "plus(s(N:nat), M:nat) = s(plus(N:nat, M:nat))"), "times plus s")
	wantFound(t, rules(t, "b(X:x) = X:x", "a() = c()"), "a b c")
	wantFound(t, rules(t, "b(a(), X:x) = c(X:x, X:x)"), "a b c")
	wantFound(t, rules(t, "c() = b()"), "c b")
	wantFound(t, rules(t, "c() = b()", "d() = a()"), "c b d a")
	wantFound(t, rules(t, "B() = a()", "f(X:x) = X:x"), "B a f")
	wantFound(t, rules(t, "f(X:x, g(Y:x)) = f(g(X:x), Y:x)", "f(g(X:x), Y:x) = f(X:x, h(Y:x))")[1:], "f g h")
	wantNotFound(t, rules(t, "a() = b()", "b() = a()"), api.ErrNone)
	wantNotFound(t, rules(t, "a() = a()"), api.ErrNone)
	wantNotFound(t, rules(t, "X:a = Y:a"), api.ErrNone)
	wantNotFound(t, rules(t, "f(X:a) = g(Y:a)"), api.ErrNone)
	wantNotFound(t, rules(t, "f(X:x, Y:x) = f(Y:x, X:x)"), api.ErrNone)
	seven := rules(t, "g() = f()", "f() = e()", "e() = d()", "d() = c()", "c() = b()", "b() = a()")
	wantFound(t, seven, "g f e d c b a")
	wantNotFound(t, append(seven, rules(t, "h(X:a) = X:a")...), api.ErrLimit)
	wantNotFound(t, append(seven, rules(t, "a() = h()", "a() = a()")...), api.ErrLimit)
	wantNotFound(t, append(seven, rules(t, "a() = g()")...), api.ErrNone)
	many := slices.Repeat(seven[:1], api.MaxRules+1)
	wantNotFound(t, many, api.ErrFull)
	wantNotFound(t, append(slices.Clone(many), rules(t, "h(i(), j(), k(), l(), m()) = n(o())")...), api.ErrFull)
	wantFound(t, many[1:], "g f")
	for _, x := range wrongTerms() {
		wantNotFound(t, []api.Rule{{Left: op("a"), Right: x}}, api.ErrArg)
		wantNotFound(t, append(slices.Clone(many), api.Rule{Left: x, Right: op("a")}), api.ErrArg)
	}
}

// permutations calls f with all orders of names, in ascending order, as long as it returns true.
func permutations(done, left []string, f func([]string) bool) bool {
	if len(left) == 0 {
		return f(done)
	}
	for i, name := range left {
		rest := slices.Delete(slices.Clone(left), i, i+1)
		if !permutations(append(slices.Clone(done), name), rest, f) {
			return false
		}
	}
	return true
}

func TestFindIsFirst(t *testing.T) {
	pool := rules(t, "f(c(), X:a) = X:a", "g(X:a) = f(X:a, X:a)", "f(g(X:a), Y:a) = g(f(X:a, Y:a))", "c() = d()", "f(X:a, Y:a) = g(X:a)", "g(g(X:a)) = f(c(), X:a)", "d() = g(c())", "f(d(), X:a) = f(X:a, c())", "g(d()) = c()")
	for mask := range 1 << len(pool) {
		var l []api.Rule
		for i, r := range pool {
			if mask>>i&1 == 1 {
				l = append(l, r)
			}
		}
		text := ""
		for _, r := range l {
			text += show(r.Left) + show(r.Right)
		}
		var have []string
		for _, name := range []string{"c", "d", "f", "g"} {
			if strings.Contains(text, name+"(") {
				have = append(have, name)
			}
		}
		var want []string
		found := !permutations(nil, have, func(ops []string) bool {
			want = ops
			return slices.ContainsFunc(l, func(r api.Rule) bool { return !oracle(ops, r.Left, r.Right) })
		})
		got, err := pathorder.Find(l)
		if found && (err != api.OK || !slices.Equal(got, want)) || !found && (err != api.ErrNone || len(got) != 0) {
			t.Fatal(text, got, err, want, found)
		}
	}
}

// P8.4

func TestDescends(t *testing.T) {
	ops := []string{"s", "zero"}
	want := func(ops []string, l []api.Term, ok bool, index int, want api.Errno) {
		t.Helper()
		if r, i, err := pathorder.Descends(ops, l); r != ok || i != index || err != want {
			t.Error(r, i, err)
		}
	}
	var l []api.Term
	for i := range 50 {
		l = append(l, tower(50-i, op("zero")))
	}
	want(ops, l, true, -1, api.OK)
	want(ops, nil, true, -1, api.OK)
	want(ops, l[:1], true, -1, api.OK)
	want(ops, append(slices.Clone(l), tower(2, op("zero")), op("zero"), op("zero")), false, 49, api.OK)
	want(ops, append(slices.Clone(l[:3]), l[2], l[0]), false, 2, api.OK)
	want(ops, []api.Term{variable("x", "s"), op("zero")}, false, 0, api.OK)
	many := slices.Repeat(l[:1], api.MaxList+1)
	want(ops, many, false, 0, api.ErrFull)
	want(nil, many, false, 0, api.ErrFull)
	want(ops, many[1:], false, 0, api.OK)
	want(ops[:1], l, false, 0, api.ErrName)
	want(ops, append(slices.Clone(l[:2]), l[0], op("one")), false, 0, api.ErrName)
	for _, bad := range wrongPrecedences() {
		want(bad, l, false, 0, api.ErrArg)
	}
	for _, x := range wrongTerms() {
		want(ops, append(slices.Clone(many), x), false, 0, api.ErrArg)
		want(ops, []api.Term{x}, false, 0, api.ErrArg)
	}
}

// P8.5: steps with rules that decrease lead to lesser terms.
func TestStepsDescend(t *testing.T) {
	l := rules(t, "plus(zero(), N:nat) = N:nat", "plus(s(N:nat), M:nat) = s(plus(N:nat, M:nat))", "times(zero(), N:nat) = zero()", "times(s(N:nat), M:nat) = plus(M:nat, times(N:nat, M:nat))")
	ops, err := pathorder.Find(l)
	if err != api.OK {
		t.Fatal(err)
	}
	x := parse(t, "times(s(s(s(zero()))), plus(s(zero()), times(s(s(zero())), s(N:nat))))")
	terms := []api.Term{x}
	for {
		next, _, err := rewrite.Step(l, x)
		if err != api.OK {
			break
		}
		x = next
		terms = append(terms, x)
	}
	if ok, i, err := pathorder.Descends(ops, terms); !ok || i != -1 || err != api.OK || len(terms) < 10 {
		t.Error(ok, i, err, len(terms))
	}
}
