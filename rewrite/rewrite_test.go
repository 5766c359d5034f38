package rewrite_test

import (
	"slices"
	"testing"

	"heartwood/api"
	"heartwood/rewrite"
	"heartwood/term"
)

func plus(t *testing.T) []api.Rule {
	return rules(t, "plus(zero(), N:nat) = N:nat", "plus(s(N:nat), M:nat) = s(plus(N:nat, M:nat))")
}

// P6.1: Valid

func TestValid(t *testing.T) {
	g, _, err := term.ParseSignature("sort nat sort flag op zero() -> nat op s(nat) -> nat op plus(nat, nat) -> nat op yes() -> flag op is(nat) -> flag")
	if err != api.OK {
		t.Fatal(err)
	}
	for i, l := range [][]api.Rule{nil, plus(t), rules(t, "is(N:nat) = yes()"), rules(t, "is(zero()) = is(s(zero()))"), repeat(plus(t)[0], api.MaxRules)} {
		if !rewrite.Valid(g, l) {
			t.Error(i)
		}
	}
	bad := wrongRules(t)
	bad = append(bad, rules(t, "is(N:nat) = zero()"), rules(t, "is(N:nat) = N:nat"), rules(t, "plus(zero()) = zero()"), rules(t, "s(yes()) = zero()"), rules(t, "zero() = s(yes())"),
		rules(t, "one() = zero()"), rules(t, "zero() = one()"), rules(t, "s(N:other) = zero()"), rules(t, "s(F:flag) = zero()"), append(plus(t), rules(t, "zero() = yes()")...))
	for i, l := range bad {
		if rewrite.Valid(g, l) {
			t.Error(i, l)
		}
	}
	g.Sorts = append(g.Sorts, "nat")
	if rewrite.Valid(g, plus(t)) || rewrite.Valid(g, nil) {
		t.Error("signature")
	}
}

// P6.1: Step

func wantStep(t *testing.T, l []api.Rule, x, want string, rule int, path ...int) {
	t.Helper()
	a := parse(t, x)
	r, redex, err := rewrite.Step(l, a)
	if err != api.OK || text(r) != want || redex.Rule != rule || !slices.Equal(redex.Path, path) {
		t.Errorf("Step(%s) = %s %v %v, want %s %d %v", x, text(r), redex, err, want, rule, path)
	}
	if text(a) != x {
		t.Error("the term has changed")
	}
	spoil(a)
	if text(r) != want {
		t.Error("the result shares memory with the argument")
	}
}

func TestStep(t *testing.T) {
	wantStep(t, plus(t), "plus(s(zero()), zero())", "s(plus(zero(), zero()))", 1)
	wantStep(t, plus(t), "s(plus(zero(), zero()))", "s(zero())", 0, 0)
	wantStep(t, plus(t), "plus(plus(zero(), x:nat), plus(zero(), y:nat))", "plus(x:nat, plus(zero(), y:nat))", 0, 0)
	wantStep(t, plus(t), "plus(zero(), plus(zero(), y:nat))", "plus(zero(), y:nat)", 0, 1)
	wantStep(t, plus(t), "plus(s(M:nat), N:nat)", "s(plus(M:nat, N:nat))", 1)
	wantStep(t, plus(t), "plus(zero(), f(N:nat))", "f(N:nat)", 0)
	wantStep(t, plus(t), "plus(zero(), N:nat)", "N:nat", 0)
	two := rules(t, "f(x:s, y:s) = x:s", "f(a(), y:s) = y:s", "a() = b()")
	wantStep(t, two, "f(c(), d())", "c()", 0)
	wantStep(t, two[1:], "f(a(), d())", "f(b(), d())", 1, 0)
	wantStep(t, two, "g(c(), g(f(c(), c()), a()))", "g(c(), g(c(), a()))", 0, 1, 0)
	// A variable of a rule stands for all operations, and for variables of its sort alone.
	sorts := rules(t, "f(x:s) = a()", "f(x:t) = g(x:t)")
	wantStep(t, sorts, "f(x:t)", "g(x:t)", 1)
	wantStep(t, sorts, "f(y:s)", "a()", 0)
	wantStep(t, sorts, "f(f2(x:t))", "a()", 0)
	equal := rules(t, "f(x:s, x:s) = x:s")
	wantStep(t, equal, "f(f(a(), a()), a())", "f(a(), a())", 0, 0)
	wantStep(t, equal, "g(f(a(), b()), f(g(y:s), g(y:s)))", "g(f(a(), b()), g(y:s))", 0, 1)
	swap := rules(t, "f(x:s, y:s) = g(y:s, x:s, y:s)")
	wantStep(t, swap, "f(y:s, x:s)", "g(x:s, y:s, x:s)", 0)
	wantStep(t, swap, "f(h(a()), b())", "g(b(), h(a()), b())", 0)
}

func TestStepIsNew(t *testing.T) {
	l := rules(t, "f(x:s) = g(x:s, x:s, h(c()))")
	r, _, _ := rewrite.Step(l, parse(t, "f(a(b()))"))
	spoilRules(l)
	spoil(r.L[0])
	if text(r.L[1]) != "a(b())" || text(r.L[2]) != "h(c())" {
		t.Error(text(r))
	}
	l = rules(t, "f(x:s) = g(h(c()))")
	r, _, _ = rewrite.Step(l, parse(t, "f(a(b()))"))
	spoil(r)
	if text(l[0].Right) != "g(h(c()))" {
		t.Error(text(l[0].Right))
	}
}

func TestStepErrors(t *testing.T) {
	want := func(l []api.Rule, x api.Term, want api.Errno) {
		t.Helper()
		if r, redex, err := rewrite.Step(l, x); err != want || !isZero(r) || redex.Rule != 0 || len(redex.Path) != 0 {
			t.Errorf("Step = %v %v %v, want %v", r, redex, err, want)
		}
	}
	for _, w := range wrongTerms() {
		want(plus(t), w, api.ErrArg)
	}
	for _, l := range wrongRules(t) {
		want(l, op("f", op("c")), api.ErrArg)
	}
	for _, x := range []string{"x:nat", "zero()", "plus(x:nat, zero())", "s(plus(f(zero()), y:nat))", "plus(s(zero()))", "plus(zero(), x:other)", "plus(zero(), zero(), zero())"} {
		want(plus(t), parse(t, x), api.ErrNone)
	}
	want(nil, parse(t, "f(x:s)"), api.ErrNone)
	double := rules(t, "f(x:s) = g(x:s, x:s)", "h(x:s) = k(k(x:s))")
	want(double, op("f", bush(500, op("c"))), api.ErrFull)
	if r, _, err := rewrite.Step(double, op("f", bush(499, op("c")))); err != api.OK || term.Size(r) != 999 {
		t.Error(term.Size(r), err)
	}
	exact := rules(t, "f(x:s) = g(x:s, x:s, c())")
	if r, _, err := rewrite.Step(exact, op("f", bush(499, op("c")))); err != api.OK || term.Size(r) != api.MaxSize {
		t.Error(term.Size(r), err)
	}
	want(exact, op("q", op("f", bush(499, op("c")))), api.ErrFull)
	want(double, op("q", op("f", bush(499, op("c"))), op("c")), api.ErrFull)
	want(double, tower(20, op("h", tower(api.MaxNest-22, op("c")))), api.ErrFull)
	if r, _, err := rewrite.Step(double, tower(20, op("h", tower(api.MaxNest-23, op("c"))))); err != api.OK || term.Depth(r) != api.MaxNest {
		t.Error(term.Depth(r), err)
	}
	// What goes away makes room.
	if r, _, err := rewrite.Step(rules(t, "f(x:s, y:s) = g(y:s, y:s)"), op("f", bush(600, op("c")), bush(399, op("c")))); err != api.OK || term.Size(r) != 799 {
		t.Error(term.Size(r), err)
	}
}

// P6.2

func TestNormal(t *testing.T) {
	for _, c := range []struct {
		x, want string
		steps   int
	}{
		{"plus(s(zero()), zero())", "s(zero())", 2}, {"zero()", "zero()", 0}, {"x:nat", "x:nat", 0},
		{"plus(s(s(zero())), plus(s(zero()), s(x:nat)))", "s(s(s(s(x:nat))))", 5}, {"plus(x:nat, plus(zero(), zero()))", "plus(x:nat, zero())", 1},
	} {
		for _, fuel := range []int{c.steps, c.steps + 1, api.MaxOps} {
			x := parse(t, c.x)
			r, n, err := rewrite.Normal(plus(t), x, fuel)
			if err != api.OK || text(r) != c.want || n != c.steps {
				t.Error(c, text(r), n, err)
			}
			trace, err := rewrite.Trace(plus(t), x, fuel)
			if err != api.OK || len(trace) != c.steps {
				t.Error(c, trace, err)
			}
			spoil(x)
			if text(r) != c.want {
				t.Error("the result shares memory with the argument")
			}
		}
		for fuel := range c.steps {
			wantNoNormal(t, plus(t), parse(t, c.x), fuel, api.ErrLimit)
		}
	}
}

func wantNoNormal(t *testing.T, l []api.Rule, x api.Term, fuel int, want api.Errno) {
	t.Helper()
	if r, n, err := rewrite.Normal(l, x, fuel); err != want || !isZero(r) || n != 0 {
		t.Errorf("Normal = %v %d %v, want %v", r, n, err, want)
	}
	if trace, err := rewrite.Trace(l, x, fuel); err != want || len(trace) != 0 {
		t.Errorf("Trace = %v %v, want %v", trace, err, want)
	}
	if ok, err := rewrite.Joinable(l, op("none"), x, fuel); err != want || ok {
		t.Errorf("Joinable = %v %v, want %v", ok, err, want)
	}
	if ok, err := rewrite.Joinable(l, x, op("none"), fuel); err != want || ok {
		t.Errorf("Joinable = %v %v, want %v", ok, err, want)
	}
}

func TestNormalErrors(t *testing.T) {
	for _, fuel := range []int{-1, 0, 5, api.MaxOps + 1} {
		for _, w := range wrongTerms() {
			wantNoNormal(t, plus(t), w, fuel, api.ErrArg)
		}
		for _, l := range wrongRules(t) {
			wantNoNormal(t, l, op("c"), fuel, api.ErrArg)
		}
	}
	for _, fuel := range []int{-1, api.MaxOps + 1, -1 << 63, 1 << 62} {
		wantNoNormal(t, plus(t), op("zero"), fuel, api.ErrRange)
	}
	loop := rules(t, "a() = a()", "f(x:s) = g(f(x:s))", "d(x:s) = d(b(x:s, x:s))")
	wantNoNormal(t, loop, op("a"), api.MaxOps, api.ErrLimit)
	wantNoNormal(t, loop, op("f", op("c")), api.MaxNest-2, api.ErrLimit)
	wantNoNormal(t, loop, op("f", op("c")), api.MaxNest-1, api.ErrFull)
	wantNoNormal(t, loop, op("d", op("c")), 8, api.ErrLimit)
	wantNoNormal(t, loop, op("d", op("c")), 9, api.ErrFull)
}

// P6.1, P6.2, and P6.6: many terms, compared with the oracle.
func TestStepsOfMany(t *testing.T) {
	n := numbers(11)
	for _, l := range systems(t) {
		for range 150 {
			x := random(&n, 5)
			want, steps, last := clone(x), []api.Redex{}, false
			for !last && len(steps) < 200 {
				u, redex, ok := oracleStep(l, want)
				got, r, err := rewrite.Step(l, want)
				if ok != (err == api.OK) || ok && (!same(got, u) || r.Rule != redex.Rule || !slices.Equal(r.Path, redex.Path)) {
					t.Fatal(text(want), text(got), r, err)
				}
				last = !ok
				if ok {
					want, steps = u, append(steps, redex)
				}
			}
			if !last {
				t.Fatal("no end", text(x))
			}
			checkNormal(t, l, x, want, steps)
		}
	}
}

func checkNormal(t *testing.T, l []api.Rule, x, want api.Term, steps []api.Redex) {
	t.Helper()
	r, count, err := rewrite.Normal(l, x, len(steps))
	if err != api.OK || count != len(steps) || !same(r, want) {
		t.Fatal(text(x), text(r), count, err)
	}
	trace, err := rewrite.Trace(l, x, api.MaxOps)
	equal := slices.EqualFunc(trace, steps, func(a, b api.Redex) bool { return a.Rule == b.Rule && slices.Equal(a.Path, b.Path) })
	if err != api.OK || !equal {
		t.Fatal(text(x), trace, steps)
	}
	for i, a := range trace {
		for _, b := range trace[i+1:] {
			if len(a.Path) > 0 && len(b.Path) > 0 && &a.Path[0] == &b.Path[0] {
				t.Fatal("paths share memory")
			}
		}
	}
	r, count, err = rewrite.Replay(l, x, trace)
	if err != api.OK || count != len(steps) || !same(r, want) {
		t.Fatal(text(x), text(r), count, err)
	}
	if r, count, err = rewrite.Normal(l, want, 0); err != api.OK || count != 0 || !same(r, want) {
		t.Fatal(text(want), text(r), count, err)
	}
	if ok, err := rewrite.Joinable(l, x, want, len(steps)); !ok || err != api.OK {
		t.Fatal(ok, err)
	}
}

// P6.3

func at(rule int, path ...int) api.Redex { return api.Redex{Rule: rule, Path: path} }

func TestReplay(t *testing.T) {
	l := rules(t, "f(x:s, y:s) = x:s", "a() = b()", "d(x:s) = p(x:s, x:s)", "h(x:s) = k(k(x:s))")
	want := func(x, want string, trace ...api.Redex) {
		t.Helper()
		a := parse(t, x)
		r, n, err := rewrite.Replay(l, a, trace)
		if err != api.OK || text(r) != want || n != len(trace) || text(a) != x {
			t.Errorf("Replay(%s, %v) = %s %d %v", x, trace, text(r), n, err)
		}
		spoil(a)
		if text(r) != want {
			t.Error("the result shares memory with the argument")
		}
	}
	want("f(a(), g(a()))", "f(a(), g(a()))")
	want("f(a(), g(a()))", "a()", at(0))
	want("f(a(), g(a()))", "b()", at(1, 1, 0), at(0), at(1))
	want("d(f(a(), c()))", "p(a(), f(b(), c()))", at(2), at(1, 1, 0), at(0, 0))
	fails := func(x api.Term, index int, want api.Errno, trace ...api.Redex) {
		t.Helper()
		if r, n, err := rewrite.Replay(l, x, trace); err != want || n != index || !isZero(r) {
			t.Errorf("Replay = %v %d %v, want %d %v", r, n, err, index, want)
		}
	}
	x := parse(t, "f(a(), g(a()))")
	fails(x, 0, api.ErrRange, at(4))
	fails(x, 0, api.ErrRange, at(-1))
	fails(x, 0, api.ErrRange, at(9, 0))
	fails(x, 1, api.ErrRange, at(1, 0), at(1, 2))
	fails(x, 1, api.ErrRange, at(1, 0), at(1, -1))
	fails(x, 0, api.ErrRange, at(1, 0, 0))
	fails(x, 1, api.ErrRange, at(0), at(1, 1))
	fails(x, 1, api.ErrNone, at(1, 0), at(1, 0))
	fails(x, 0, api.ErrNone, at(0, 1))
	fails(x, 2, api.ErrNone, at(1, 0), at(1, 1, 0), at(1))
	fails(op("d", bush(500, op("c"))), 0, api.ErrFull, at(2))
	fails(op("d", op("d", bush(300, op("c")))), 1, api.ErrFull, at(2, 0), at(2))
	fails(op("h", tower(api.MaxNest-2, op("c"))), 0, api.ErrFull, at(3))
	many := slices.Repeat([]api.Redex{at(9)}, api.MaxOps+1)
	fails(x, 0, api.ErrFull, many...)
	fails(x, 0, api.ErrRange, many[1:]...)
	for _, w := range wrongTerms() {
		fails(w, 0, api.ErrArg, many...)
		fails(w, 0, api.ErrArg)
	}
	for _, bad := range wrongRules(t) {
		if r, n, err := rewrite.Replay(bad, x, many); err != api.ErrArg || n != 0 || !isZero(r) {
			t.Error(r, n, err)
		}
	}
	loop := rules(t, "a() = a()")
	if _, n, err := rewrite.Replay(loop, op("a"), slices.Repeat([]api.Redex{at(0)}, api.MaxOps)); err != api.OK || n != api.MaxOps {
		t.Error(n, err)
	}
}

// P6.6: rules that are confluent and make terms smaller lead to one normal form, in any order; and sorts are kept.
func TestAnyOrder(t *testing.T) {
	l := rules(t, "s(s(x:s)) = x:s", "f(x:s, y:s) = x:s", "g(x:s, x:s) = x:s", "s(a()) = a()", "s(b()) = b()", "s(z()) = z()")
	if ok, _, err := rewrite.Confluent(l, 100); !ok || err != api.OK {
		t.Fatal(ok, err)
	}
	n := numbers(5)
	for range 100 {
		x := clone(random(&n, 5))
		one := func(v api.Term) bool { s := text(v); return !slices.Contains([]string{s}, "u:t") }
		if !one(x) {
			continue
		}
		want, _, err := rewrite.Normal(l, x, api.MaxOps)
		if err != api.OK {
			t.Fatal(err)
		}
		for {
			var options []api.Redex
			for _, path := range places(x) {
				for i, r := range l {
					if _, ok := oracleAt(r, x, path); ok {
						options = append(options, at(i, path...))
					}
				}
			}
			if len(options) == 0 {
				break
			}
			if x, _, err = rewrite.Replay(l, x, []api.Redex{options[n.below(len(options))]}); err != api.OK {
				t.Fatal(err)
			}
		}
		if hasOther(x) || hasOther(want) {
			continue
		}
		if !same(x, want) {
			t.Fatal(text(x), text(want))
		}
	}
}

// hasOther reports whether a term has a variable of the sort t, for which the rules of the test do not hold.
func hasOther(x api.Term) bool {
	return x.Sort == "t" || slices.ContainsFunc(x.L, hasOther)
}

func TestSortsAreKept(t *testing.T) {
	g, _, _ := term.ParseSignature("sort nat op zero() -> nat op s(nat) -> nat op plus(nat, nat) -> nat")
	if !rewrite.Valid(g, plus(t)) {
		t.Fatal("not valid")
	}
	x := parse(t, "plus(s(plus(zero(), s(X:nat))), plus(s(zero()), Y:nat))")
	for {
		if sort, err := term.Sort(g, x); sort != "nat" || err != api.OK {
			t.Fatal(text(x), sort, err)
		}
		u, _, err := rewrite.Step(plus(t), x)
		if err != api.OK {
			break
		}
		x = u
	}
}
