package spec_test

import (
	"crypto/sha256"
	"encoding/hex"
	"slices"
	"strconv"
	"strings"
	"testing"

	"heartwood/api"
	"heartwood/rewrite"
	"heartwood/spec"
	"heartwood/term"
)

// P7.1: Valid

func TestValid(t *testing.T) {
	if s := parseSpec(t, peano); !spec.Valid(s) || !spec.Valid(api.Spec{}) {
		t.Error("a valid one")
	}
	for i, s := range invalid(t) {
		if spec.Valid(s) {
			t.Error(i)
		}
	}
}

// raw reads a specification without asking whether it is valid.
func raw(t *testing.T, s string) api.Spec {
	t.Helper()
	if _, _, err := spec.Parse(s); err != api.ErrArg {
		t.Fatal(s, err)
	}
	lines := strings.Split(strings.TrimSuffix(s, "\n"), "\n")
	x := api.Spec{Ctors: strings.Fields(lines[0])[1:]}
	sig := ""
	for _, line := range lines[1:] {
		if rule, ok := strings.CutPrefix(line, "rule "); ok {
			left, right, _ := strings.Cut(rule, " = ")
			x.Rules = append(x.Rules, api.Rule{Left: parse(t, left), Right: parse(t, right)})
		} else {
			sig += line + "\n"
		}
	}
	g, _, err := term.ParseSignature(sig)
	if err == api.OK {
		x.Sig = g
	}
	return x
}

func invalid(t *testing.T) []api.Spec {
	t.Helper()
	var l []api.Spec
	for _, c := range [][2]string{
		{"spec zero s", "spec zero zero s"}, {"spec zero s", "spec zero s other"}, {"spec zero s", "spec zero s plus"}, {"spec zero s", "spec zero"},
		{"plus(zero(), N:nat) = N:nat", "plus(zero(), N:nat) = M:nat"}, {"plus(zero(), N:nat) = N:nat", "plus(zero(), N:nat) = yes()"}, {"plus(zero(), N:nat)", "plus(N:nat, N:nat)"},
		{"plus(zero(), N:nat) = N:nat", "plus(N:nat, M:nat) = N:nat"}, {"plus(zero(), N:nat) = N:nat", "plus(N:nat, zero()) = N:nat"},
		{"plus(zero(), N:nat)", "plus(plus(zero(), zero()), N:nat)"}, {"plus(zero(), N:nat)", "plus(zero(), s(plus(N:nat, zero())))"}, {"plus(zero(), N:nat) = N:nat", "s(zero()) = zero()"}, {"plus(zero(), N:nat) = N:nat", "N:nat = N:nat"},
		{"plus(zero(), N:nat) = N:nat", "plus(zero(), N:nat) = plus(N:nat)"}, {"plus(zero(), N:nat) = N:nat", "plus(zero()) = zero()"}, {"even(zero()) = yes()", "even(yes()) = yes()"}, {"even(zero()) = yes()", "even(zero()) = one()"},
		{"even(zero()) = yes()", "even(N:nat) = yes()"}, {"not1(no()) = yes()", "not1(yes()) = yes()"}, {"not1(no()) = yes()", "not1(N:flag) = yes()"},
	} {
		l = append(l, raw(t, changed(t, c[0], c[1])))
	}
	s := parseSpec(t, peano)
	s.Sig.Sorts = append(s.Sig.Sorts, "nat")
	l = append(l, s)
	s = parseSpec(t, peano)
	s.Rules = append(s.Rules, api.Rule{})
	l = append(l, s)
	return l
}

func TestMostRules(t *testing.T) {
	s := "spec a b\nsort x\nop a() -> x\nop b(x) -> x\nop f(x) -> x\n"
	p := "a()"
	for i := range 58 {
		s += "rule f(" + p + ") = a()\n"
		p = "b(" + p + ")"
		if i == 10 && !spec.Valid(parseSpec(t, s)) {
			t.Error("valid")
		}
	}
	x := parseSpec(t, s)
	if !spec.Valid(x) {
		t.Error("58 rules")
	}
	// 101 rules that do not overlap: two operations.
	for _, r := range slices.Clone(x.Rules)[:43] {
		r.Left = api.Term{Name: "g", L: r.Left.L}
		x.Rules = append(x.Rules, r)
	}
	x.Sig.Ops = append(x.Sig.Ops, api.Decl{Name: "g", Args: []string{"x"}, Result: "x"})
	if spec.Valid(x) {
		t.Error("101 rules")
	}
	x.Rules = x.Rules[:100]
	if !spec.Valid(x) {
		t.Error("100 rules")
	}
}

func TestOverlap(t *testing.T) {
	head := "spec a b c\nsort x\nop a() -> x\nop b(x) -> x\nop c(x, x) -> x\nop f(x, x) -> x\n"
	for _, c := range []struct {
		l, r string
		ok   bool
	}{
		{"f(a(), y:x)", "f(y:x, a())", false}, {"f(a(), y:x)", "f(b(y:x), a())", true}, {"f(b(a()), z:x)", "f(b(y:x), z:x)", false}, {"f(b(a()), z:x)", "f(b(b(y:x)), z:x)", true},
		{"f(c(a(), y:x), a())", "f(c(z:x, a()), y:x)", false}, {"f(c(a(), y:x), a())", "f(c(z:x, a()), b(y:x))", true}, {"f(y:x, z:x)", "f(a(), a())", false},
	} {
		_, _, err := spec.Parse(head + "rule " + c.l + " = a()\nrule " + c.r + " = a()\n")
		if (err == api.OK) != c.ok || !c.ok && err != api.ErrArg {
			t.Error(c, err)
		}
	}
}

// P7.1: Complete

func wantMissing(t *testing.T, s, want string) {
	t.Helper()
	x := parseSpec(t, s)
	ok, m, err := spec.Complete(x)
	if err != api.OK || ok != (want == "") || ok && !isZero(m) || !ok && text(m) != want {
		t.Errorf("Complete = %v %s %v, want %s", ok, text(m), err, want)
	}
}

func TestComplete(t *testing.T) {
	wantMissing(t, "spec", "")
	wantMissing(t, peano, "")
	without := func(line string) string { return changed(t, "rule "+line+"\n", "") }
	wantMissing(t, without("plus(zero(), N:nat) = N:nat"), "plus(zero(), x1:nat)")
	wantMissing(t, without("plus(s(N:nat), M:nat) = s(plus(N:nat, M:nat))"), "plus(s(x1:nat), x2:nat)")
	wantMissing(t, without("not1(yes()) = no()"), "not1(yes())")
	wantMissing(t, without("even(s(N:nat)) = not1(even(N:nat))"), "even(s(x1:nat))")
	wantMissing(t, strings.Replace(without("even(s(N:nat)) = not1(even(N:nat))"), "rule even(zero()) = yes()\n", "", 1), "even(x1:nat)")
	// The order of the operations, and of the constructors, counts.
	wantMissing(t, "spec a b sort x op a() -> x op b() -> x op g(x, x) -> x op f() -> x rule g(b(), y:x) = a() rule g(a(), b()) = b()", "g(a(), a())")
	wantMissing(t, "spec b a sort x op a() -> x op b() -> x op g(x, x) -> x op f() -> x rule g(b(), b()) = a() rule g(a(), b()) = b()", "g(b(), a())")
	wantMissing(t, "spec a sort x op f() -> x op g() -> x op a() -> x rule g() = a()", "f()")
	// The first variable at whose place an overlapping left side has an operation is not the first one here.
	wantMissing(t, "spec a b sort x op a() -> x op b(x) -> x op g(x, x, x) -> x rule g(y:x, a(), z:x) = a() rule g(y:x, b(z:x), a()) = a()", "g(x1:x, b(x2:x), b(x3:x))")
	wantMissing(t, "spec a b sort x op a() -> x op b(x) -> x op g(x, x) -> x rule g(y:x, a()) = a() rule g(a(), b(z:x)) = a()", "g(b(x1:x), b(x2:x))")
	wantMissing(t, "spec a b sort x op a() -> x op b(x) -> x op g(x, x) -> x rule g(b(b(y:x)), z:x) = a() rule g(a(), z:x) = a()", "g(b(a()), x1:x)")
	// A sort without constructors has no terms.
	wantMissing(t, "spec a sort x sort none op a() -> x op g(none) -> x op h(x) -> x rule h(y:x) = y:x", "g(x1:none)")
	wantMissing(t, "spec a b sort x op a() -> x op b(x) -> x op g(x, x) -> x rule g(a(), y:x) = y:x rule g(b(y:x), a()) = a() rule g(b(y:x), b(z:x)) = a()", "")
	wantMissing(t, "spec a sort x sort none op a() -> x op m() -> none op g(none) -> x rule m() = m() rule g(n:none) = a()", "")
}

func TestCompleteErrors(t *testing.T) {
	for i, s := range invalid(t) {
		if ok, m, err := spec.Complete(s); ok || !isZero(m) || err != api.ErrArg {
			t.Error(i, ok, m, err)
		}
	}
	want := func(s string, want api.Errno) {
		t.Helper()
		ok, m, err := spec.Complete(parseSpec(t, s))
		if err != want || ok != (want == api.OK) || !isZero(m) {
			t.Error(ok, m, err)
		}
	}
	want(wide(9), api.OK)
	want(wide(10), api.ErrLimit)
	// The pattern that is missing would be too deep.
	deep := func(ctors string, n int) string {
		return "spec " + ctors + " sort a op z() -> a op s(a) -> a op f(a) -> a rule f(" + strings.Repeat("s(", n) + "z())" + strings.Repeat(")", n) + " = z()"
	}
	want(deep("s z", 58), api.ErrFull)
	wantMissing(t, deep("s z", 57), "f("+strings.Repeat("s(", 58)+"x1:a)"+strings.Repeat(")", 58))
	wantMissing(t, deep("z s", 58), "f(z())")
}

// wide has an operation of which 1 + 10 + 110 + 1870 = 1991 terms are looked at, and n more with one each.
func wide(n int) string {
	s, ops, rules := "spec", "", ""
	ctors := func(sort string, count int) {
		for i := range count {
			s += " " + sort + strconv.Itoa(i)
			ops += "op " + sort + strconv.Itoa(i) + "() -> " + sort + "\n"
		}
	}
	ctors("a", 10)
	ctors("b", 11)
	ctors("c", 17)
	ops += "op f(a, b, c) -> a\n"
	for i := range 10 {
		rules += "rule f(a" + strconv.Itoa(i) + "(), y:b, c0()) = a0()\n"
	}
	for i := range 11 {
		rules += "rule f(x:a, b" + strconv.Itoa(i) + "(), c1()) = a0()\n"
	}
	for i := 2; i < 17; i++ {
		rules += "rule f(x:a, y:b, c" + strconv.Itoa(i) + "()) = a0()\n"
	}
	for i := range n {
		ops += "op g" + strconv.Itoa(i) + "() -> a\n"
		rules += "rule g" + strconv.Itoa(i) + "() = a0()\n"
	}
	return s + "\nsort a\nsort b\nsort c\n" + ops + rules
}

// P7.2

func TestEval(t *testing.T) {
	s := parseSpec(t, peano)
	for _, c := range [][2]string{{"plus(s(zero()), s(zero()))", "s(s(zero()))"}, {"even(plus(s(zero()), s(zero())))", "yes()"}, {"x:nat", "x:nat"}, {"plus(x:nat, zero())", "plus(x:nat, zero())"}, {"not1(even(s(N:nat)))", "not1(not1(even(N:nat)))"}} {
		x := parse(t, c[0])
		r, err := spec.Eval(s, x, 100)
		if err != api.OK || text(r) != c[1] {
			t.Error(c, text(r), err)
		}
		spoil(x)
		if text(r) != c[1] {
			t.Error("the result shares memory with the argument")
		}
	}
	want := func(s api.Spec, x api.Term, fuel int, want api.Errno) {
		t.Helper()
		if r, err := spec.Eval(s, x, fuel); err != want || !isZero(r) {
			t.Error(r, err)
		}
	}
	for _, fuel := range []int{0, -1, api.MaxOps + 1} {
		for _, x := range invalid(t) {
			want(x, op("zero"), fuel, api.ErrArg)
		}
		for _, x := range []string{"one()", "plus(zero())", "s(yes())", "x:other"} {
			want(s, parse(t, x), fuel, api.ErrArg)
		}
		want(s, tower(api.MaxNest, op("zero")), fuel, api.ErrArg)
	}
	want(s, op("zero"), -1, api.ErrRange)
	want(s, op("zero"), api.MaxOps+1, api.ErrRange)
	want(s, parse(t, "plus(s(zero()), zero())"), 1, api.ErrLimit)
	loop := parseSpec(t, "spec a b sort x op a() -> x op b(x, x) -> x op f(x) -> x op g(x) -> x rule f(y:x) = b(f(y:x), y:x) rule g(y:x) = g(y:x)")
	want(loop, parse(t, "f(a())"), api.MaxOps, api.ErrFull)
	want(loop, parse(t, "g(a())"), api.MaxOps, api.ErrLimit)
}

func TestEqual(t *testing.T) {
	s := parseSpec(t, peano)
	for _, c := range []struct {
		a, b string
		want bool
		err  api.Errno
	}{
		{"plus(s(zero()), zero())", "s(zero())", true, api.OK}, {"plus(s(zero()), zero())", "zero()", false, api.OK}, {"even(zero())", "not1(no())", true, api.OK},
		{"x:nat", "x:nat", true, api.OK}, {"x:nat", "y:nat", false, api.OK}, {"x:nat", "y:flag", false, api.ErrType}, {"zero()", "yes()", false, api.ErrType}, {"plus(zero(), x:nat)", "x:nat", true, api.OK},
		{"one()", "yes()", false, api.ErrArg}, {"zero()", "s(yes())", false, api.ErrArg},
	} {
		if ok, err := spec.Equal(s, parse(t, c.a), parse(t, c.b), 50); ok != c.want || err != c.err {
			t.Error(c, ok, err)
		}
	}
	want := func(s api.Spec, a, b string, fuel int, want api.Errno) {
		t.Helper()
		if ok, err := spec.Equal(s, parse(t, a), parse(t, b), fuel); err != want || ok {
			t.Error(ok, err)
		}
	}
	for _, x := range invalid(t) {
		want(x, "zero()", "yes()", -1, api.ErrArg)
	}
	for _, fuel := range []int{-1, api.MaxOps + 1} {
		want(s, "one()", "zero()", fuel, api.ErrArg)
		want(s, "zero()", "yes()", fuel, api.ErrType)
		want(s, "zero()", "zero()", fuel, api.ErrRange)
	}
	loop := parseSpec(t, "spec a b sort x op a() -> x op b(x, x) -> x op f(x) -> x op g(x) -> x rule f(y:x) = b(f(y:x), y:x) rule g(y:x) = g(y:x)")
	want(loop, "f(a())", "g(a())", 500, api.ErrFull)
	want(loop, "g(a())", "f(a())", 500, api.ErrLimit)
	want(loop, "a()", "f(a())", 500, api.ErrFull)
}

// P7.3 and P7.7

// sums are those of the texts at the end of the chapter.
func sums() map[int]string {
	return map[int]string{
		api.Dict: "3fe4a9146446078b", api.Heap: "844aed826271271e", api.Seq: "c2234c025a371470", api.Sets: "6bbb5d9e204324b4", api.Range: "2f1a4b967157213b", api.Text: "3bc2b41cd3c71ad6",
	}
}

func TestBuiltin(t *testing.T) {
	for _, kind := range kinds() {
		s := builtin(t, kind)
		x, err := spec.Text(s)
		sum := sha256.Sum256([]byte(x))
		if err != api.OK || hex.EncodeToString(sum[:8]) != sums()[kind] {
			t.Error(kind, err, hex.EncodeToString(sum[:8]))
		}
		if ok, m, err := spec.Complete(s); !ok || !isZero(m) || err != api.OK || !spec.Valid(s) {
			t.Error(kind, ok, m, err)
		}
		if ok, _, err := rewrite.Confluent(s.Rules, 0); !ok || err != api.OK {
			t.Error(kind, ok, err)
		}
		s.Rules[0].Left.L[0].Name = "spoilt"
		s.Ctors[0] = "spoilt"
		if x2, _ := spec.Text(builtin(t, kind)); x2 != x {
			t.Error("results share memory")
		}
	}
	for _, kind := range wrongKinds() {
		if s, err := spec.Builtin(kind); err != api.ErrArg || !isZeroSpec(s) {
			t.Error(kind, s, err)
		}
	}
}

// Without any one of its rules a specification is not complete: an instance of this rule is missing.
func TestBuiltinsNeedAllRules(t *testing.T) {
	for _, kind := range kinds() {
		full := builtin(t, kind)
		for i, r := range full.Rules {
			s := builtin(t, kind)
			s.Rules = slices.Delete(s.Rules, i, i+1)
			ok, m, err := spec.Complete(s)
			if ok || err != api.OK || m.Name != r.Left.Name || !term.Valid(s.Sig, m) {
				t.Error(kind, text(r.Left), ok, text(m), err)
			}
		}
	}
	s := builtin(t, api.Heap)
	s.Rules = slices.DeleteFunc(s.Rules, func(r api.Rule) bool { return text(r.Left) == "least(empty())" })
	if ok, m, err := spec.Complete(s); ok || text(m) != "least(empty())" || err != api.OK {
		t.Error(ok, text(m), err)
	}
}
