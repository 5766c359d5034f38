package rewrite_test

import (
	"slices"
	"strconv"
	"strings"
	"testing"

	"heartwood/api"
	"heartwood/rewrite"
	"heartwood/term"
)

// show writes a pair with its rules and path.
func show(p api.CriticalPair) string {
	s := strconv.Itoa(p.Outer) + " " + strconv.Itoa(p.Inner)
	for _, i := range p.Path {
		s += " ." + strconv.Itoa(i)
	}
	return s + ": " + text(p.Peak) + " | " + text(p.Left) + " | " + text(p.Right)
}

func wantPairs(t *testing.T, l []api.Rule, want ...string) {
	t.Helper()
	pairs, err := rewrite.Pairs(l)
	var got []string
	for _, p := range pairs {
		got = append(got, show(p))
	}
	if err != api.OK || !slices.Equal(got, want) {
		t.Errorf("Pairs = %v\n%s\nwant\n%s", err, strings.Join(got, "\n"), strings.Join(want, "\n"))
	}
}

// P6.4

func TestPairs(t *testing.T) {
	wantPairs(t, nil)
	wantPairs(t, plus(t))
	wantPairs(t, rules(t, "f(f(X:a)) = g(X:a)"), "0 0 .0: f(f(f(X_2:a))) | f(g(X_2:a)) | g(f(X_2:a))")
	wantPairs(t, rules(t, "a() = b()", "a() = c()"), "0 1: a() | c() | b()")
	wantPairs(t, rules(t, "a() = b()", "a() = c()", "a() = d()"), "0 1: a() | c() | b()", "0 2: a() | d() | b()", "1 2: a() | d() | c()")
	wantPairs(t, rules(t, "a() = b()", "f(a(), a()) = c()"), "1 0 .0: f(a(), a()) | f(b(), a()) | c()", "1 0 .1: f(a(), a()) | f(a(), b()) | c()")
	wantPairs(t, rules(t, "f(g(a()), x:s) = x:s", "a() = b()", "g(y:s) = h(y:s)"),
		"0 2 .0: f(g(a()), x_1:s) | f(h(a()), x_1:s) | x_1:s", "0 1 .0 .0: f(g(a()), x_1:s) | f(g(b()), x_1:s) | x_1:s")
	wantPairs(t, rules(t, "f(x:s, c()) = x:s", "f(c(), x:s) = g(x:s)"), "0 1: f(c(), c()) | g(c()) | c()")
	wantPairs(t, rules(t, "f(x:s, y:s) = p(x:s, y:s)", "f(y:s, x:s) = q(y:s, x:s)"), "0 1: f(x_1:s, x_2:s) | q(x_1:s, x_2:s) | p(x_1:s, x_2:s)")
	wantPairs(t, rules(t, "a() = b()", "f(f(f(f(a(), a()), a())), a()) = c()"),
		"1 0 .0 .0 .0 .0: f(f(f(f(a(), a()), a())), a()) | f(f(f(f(b(), a()), a())), a()) | c()", "1 0 .0 .0 .0 .1: f(f(f(f(a(), a()), a())), a()) | f(f(f(f(a(), b()), a())), a()) | c()",
		"1 0 .0 .0 .1: f(f(f(f(a(), a()), a())), a()) | f(f(f(f(a(), a()), b())), a()) | c()", "1 0 .1: f(f(f(f(a(), a()), a())), a()) | f(f(f(f(a(), a()), a())), b()) | c()")
	// Variables of different sorts become no common term.
	wantPairs(t, rules(t, "f(x:s) = a()", "f(y:t) = b()"))
	wantPairs(t, rules(t, "f(x:s, x:s) = a()", "f(y:t, c()) = b()"), "0 1: f(c(), c()) | b() | a()")
	wantPairs(t, rules(t, "f(x:s) = a()", "f() = b()", "f(x:s, y:s) = c()"))
	wantPairs(t, rules(t, "f(x:s, g(x:s)) = a()", "f(y:s, y:s) = b()"))
}

func wantNoPairs(t *testing.T, l []api.Rule, want api.Errno) {
	t.Helper()
	if p, err := rewrite.Pairs(l); err != want || len(p) != 0 {
		t.Errorf("Pairs = %d %v, want %v", len(p), err, want)
	}
	for _, fuel := range []int{0, api.MaxOps} {
		if ok, p, err := rewrite.Confluent(l, fuel); err != want || ok || !isZeroPair(p) {
			t.Errorf("Confluent = %v %.80v %v, want %v", ok, p, err, want)
		}
	}
}

func isZeroPair(p api.CriticalPair) bool {
	return isZero(p.Peak) && isZero(p.Left) && isZero(p.Right) && p.Outer == 0 && p.Inner == 0 && len(p.Path) == 0
}

func TestPairsErrors(t *testing.T) {
	for _, l := range wrongRules(t) {
		wantNoPairs(t, l, api.ErrArg)
	}
	long := strings.Repeat("x", api.MaxName-2)
	wantPairs(t, rules(t, "f(f("+long+":s)) = c()"), "0 0 .0: f(f(f("+long+"_2:s))) | f(c()) | c()")
	wantNoPairs(t, rules(t, "a() = b()", "f("+long+"x:s) = c()"), api.ErrName)
	// Names come before pairs that do not fit.
	deep := api.Rule{Left: tower(31, variable("x", "s")), Right: op("c")}
	wantNoPairs(t, []api.Rule{deep}, api.ErrFull)
	wantNoPairs(t, append([]api.Rule{deep}, rules(t, "f("+long+"x:s) = c()")...), api.ErrName)
	deep.Left = tower(30, variable("x", "s"))
	if p, err := rewrite.Pairs([]api.Rule{deep}); err != api.OK || len(p) != 29 || term.Depth(p[28].Peak) != 60 {
		t.Error(len(p), err)
	}
	// The sides must fit, too: the left one, and the right one.
	big := bush(900, variable("x", "s"))
	wantNoPairs(t, []api.Rule{{Left: op("f", op("a"), variable("x", "s")), Right: op("c")}, {Left: op("a"), Right: tower(59, op("c"))}}, api.ErrFull)
	wantNoPairs(t, []api.Rule{{Left: op("f", variable("x", "s")), Right: big}, {Left: op("f", op("g", op("d"))), Right: op("c")}}, api.ErrFull)
	if p, err := rewrite.Pairs([]api.Rule{{Left: op("f", variable("x", "s")), Right: big}, {Left: op("f", op("d")), Right: op("c")}}); err != api.OK || len(p) != 1 {
		t.Error(len(p), err)
	}
	most := bush(api.MaxSize, op("d"))
	if p, err := rewrite.Pairs([]api.Rule{{Left: most, Right: op("a")}, {Left: most, Right: most}}); err != api.OK || len(p) != 1 || term.Size(p[0].Left) != api.MaxSize {
		t.Error(len(p), err)
	}
	// 45 rules with equal Left sides have 990 pairs, 46 have 1,035.
	if p, err := rewrite.Pairs(repeat(rules(t, "a() = b()")[0], 45)); err != api.OK || len(p) != 990 {
		t.Error(len(p), err)
	}
	wantNoPairs(t, repeat(rules(t, "a() = b()")[0], 46), api.ErrFull)
}

func TestExactlyMostPairs(t *testing.T) {
	// 990 pairs of a(), and f has 10 more places for one rule of b().
	l := repeat(rules(t, "a() = c()")[0], 45)
	l = append(l, rules(t, "b() = c()", "f(g(b(), b(), b(), b(), b()), g(b(), b(), b(), b(), b())) = c()")...)
	if p, err := rewrite.Pairs(l); err != api.OK || len(p) != api.MaxList {
		t.Error(len(p), err)
	}
	wantNoPairs(t, append(l, rules(t, "h(b()) = c()")...), api.ErrFull)
}

// P6.5 and P6.6

func TestJoinable(t *testing.T) {
	for _, c := range []struct {
		a, b string
		want bool
	}{
		{"plus(s(zero()), zero())", "s(zero())", true}, {"zero()", "s(zero())", false}, {"plus(zero(), x:nat)", "x:nat", true}, {"x:nat", "y:nat", false}, {"x:nat", "x:other", false},
	} {
		for _, fuel := range []int{2, api.MaxOps} {
			if ok, err := rewrite.Joinable(plus(t), parse(t, c.a), parse(t, c.b), fuel); ok != c.want || err != api.OK {
				t.Error(c, ok, err)
			}
		}
	}
	loop := rules(t, "a() = a()", "f(x:s) = g(f(x:s))")
	if ok, err := rewrite.Joinable(loop, op("a"), op("f", op("c")), 500); ok || err != api.ErrLimit {
		t.Error(ok, err)
	}
	if ok, err := rewrite.Joinable(loop, op("f", op("c")), op("a"), 500); ok || err != api.ErrFull {
		t.Error(ok, err)
	}
}

func TestConfluent(t *testing.T) {
	for i, l := range [][]api.Rule{nil, plus(t), rules(t, "a() = b()", "a() = c()", "b() = d()", "c() = d()"), rules(t, "f(f(x:s)) = x:s")} {
		if ok, p, err := rewrite.Confluent(l, 5); !ok || !isZeroPair(p) || err != api.OK {
			t.Error(i, ok, p, err)
		}
	}
	want := func(l []api.Rule, fuel int, pair string, want api.Errno) {
		t.Helper()
		ok, p, err := rewrite.Confluent(l, fuel)
		if ok || err != want || err == api.OK && show(p) != pair || err != api.OK && !isZeroPair(p) {
			t.Error(ok, show(p), err)
		}
	}
	want(rules(t, "f(f(X:a)) = g(X:a)"), 0, "0 0 .0: f(f(f(X_2:a))) | f(g(X_2:a)) | g(f(X_2:a))", api.OK)
	want(rules(t, "a() = b()", "a() = c()", "b() = c()", "d() = b()", "d() = e()"), 2, "3 4: d() | e() | b()", api.OK)
	// The first pair that decides counts, also if a later one has an error, or an earlier one is joinable.
	loop := rules(t, "a() = b()", "a() = c()", "d() = e()", "d() = d2()", "d2() = d2()")
	want(loop, 9, "0 1: a() | c() | b()", api.OK)
	want(loop[2:], 9, "", api.ErrLimit)
	want(append(loop[2:], loop[:2]...), 9, "", api.ErrLimit)
	want(rules(t, "f(f(x:s)) = g(g(x:s))", "g(x:s) = h(g(x:s))"), api.MaxOps, "", api.ErrFull)
	want(rules(t, "a() = b()", "a() = c()", "c() = b()"), 0, "", api.ErrLimit)
	for _, fuel := range []int{-1, api.MaxOps + 1} {
		want(rules(t, "f("+strings.Repeat("x", api.MaxName)+":s) = c()"), fuel, "", api.ErrRange)
		want(wrongRules(t)[0], fuel, "", api.ErrArg)
	}
}

// P6.6: the sides of a critical pair are results of redexes of its peak.
func TestSidesOfPairs(t *testing.T) {
	all := systems(t)
	all = append(all, rules(t, "f(f(x:s, y:s), z:s) = f(x:s, f(y:s, z:s))", "f(e(), x:s) = x:s", "f(i(x:s), x:s) = e()"))
	count := 0
	for _, l := range all {
		pairs, err := rewrite.Pairs(l)
		if err != api.OK {
			t.Fatal(err)
		}
		for _, p := range pairs {
			left, _, err1 := rewrite.Replay(l, p.Peak, []api.Redex{{Rule: p.Inner, Path: p.Path}})
			right, _, err2 := rewrite.Replay(l, p.Peak, []api.Redex{{Rule: p.Outer}})
			if err1 != api.OK || err2 != api.OK || !same(left, p.Left) || !same(right, p.Right) {
				t.Error(show(p))
			}
			count++
		}
	}
	if count < 9 {
		t.Error("only", count, "pairs")
	}
}

func TestPairsAreNew(t *testing.T) {
	// What a variable becomes stands at several places.
	many, _ := rewrite.Pairs(rules(t, "f(g(x:s), x:s) = h(x:s, x:s)", "g(k(m(c()))) = g(c())"))
	if len(many) != 1 || text(many[0].Peak) != "f(g(k(m(c()))), k(m(c())))" {
		t.Fatal(many)
	}
	spoil(many[0].Peak.L[1])
	spoil(many[0].Right.L[0])
	if text(many[0].Peak.L[0]) != "g(k(m(c())))" || text(many[0].Right.L[1]) != "k(m(c()))" || text(many[0].Left) != "f(g(c()), k(m(c())))" {
		t.Error("parts share memory")
	}
	// Two pairs with the same path.
	two, err := rewrite.Pairs(rules(t, "f(a()) = b()", "a() = c()", "a() = d()"))
	if err != api.OK || len(two) != 3 {
		t.Fatal(len(two), err)
	}
	two[0].Path[0] = 99
	if !slices.Equal(two[1].Path, []int{0}) {
		t.Error("paths share memory")
	}
	l := rules(t, "f(g(a(b())), x:s) = h(x:s, c(d()))", "a(y:s) = k(y:s, e(d()))")
	pairs, _ := rewrite.Pairs(l)
	want := show(pairs[0])
	spoilRules(l)
	if show(pairs[0]) != want {
		t.Error(show(pairs[0]), want)
	}
	l = rules(t, "f(g(a(b())), x:s) = h(x:s, c(d()))", "a(y:s) = k(y:s, e(d()))")
	pairs, _ = rewrite.Pairs(l)
	spoil(pairs[0].Peak)
	left, right := text(pairs[0].Left), text(pairs[0].Right)
	if !strings.HasPrefix(left, "f(g(k(b()") || strings.Contains(left+right, "spoilt") || text(l[0].Left) != "f(g(a(b())), x:s)" {
		t.Error(left, right)
	}
}
