package term_test

import (
	"strings"
	"testing"

	"heartwood/api"
	"heartwood/term"
)

// P2.5

func wantText(t *testing.T, x api.Term, want string) {
	t.Helper()
	before := clone(x)
	if r, err := term.Text(x); r != want || err != api.OK {
		t.Errorf("Text(%v) = %q %v, want %q", x, r, err, want)
	}
	if !same(x, before) {
		t.Errorf("%v has become %v", before, x)
	}
}

// plainText is the text of a term, as the chapter defines it.
func plainText(x api.Term) string {
	if x.Sort != "" {
		return x.Name + ":" + x.Sort
	}
	parts := make([]string, len(x.L))
	for i := range parts {
		parts[i] = plainText(x.L[i])
	}
	return x.Name + "(" + strings.Join(parts, ", ") + ")"
}

func TestText(t *testing.T) {
	wantText(t, zero(), "zero()")
	wantText(t, nat("X"), "X:nat")
	wantText(t, s(nat("X")), "s(X:nat)")
	wantText(t, api.Term{Name: "zero", L: []api.Term{}}, "zero()")
	wantText(t, op("f", variable("x", "s"), op("g", variable("y", "s"), op("c"))), "f(x:s, g(y:s, c()))")
	wantText(t, op("a", op("b"), op("c"), op("d"), op("e"), op("f"), op("g")), "a(b(), c(), d(), e(), f(), g())")
	wantText(t, tower(api.MaxNest-1, zero()), strings.Repeat("s(", api.MaxNest-1)+"zero()"+strings.Repeat(")", api.MaxNest-1))
	for _, x := range small() {
		wantText(t, x, plainText(x))
	}
}

// shorten takes up to n bytes from the names of the variables of t, and returns how many are still to be taken.
func shorten(t *api.Term, n int) int {
	if t.Sort != "" {
		k := min(n, len(t.Name)-1)
		t.Name = t.Name[k:]
		return n - k
	}
	for i := range t.L {
		n = shorten(&t.L[i], n)
	}
	return n
}

// withText returns a well-formed term whose text has n bytes, which are at least 50000.
func withText(t *testing.T, n int) api.Term {
	t.Helper()
	x := bush(api.MaxSize, variable(longName('a'), longName('b')))
	if shorten(&x, len(plainText(x))-n) != 0 || len(plainText(x)) != n {
		t.Fatal(n, len(plainText(x)))
	}
	return x
}

func TestTextsThatAreTooLong(t *testing.T) {
	for _, n := range []int{50000, api.MaxText - 1, api.MaxText} {
		x := withText(t, n)
		wantText(t, x, plainText(x))
	}
	for _, n := range []int{api.MaxText + 1, api.MaxText + 2, api.MaxText + 100} {
		if r, err := term.Text(withText(t, n)); r != "" || err != api.ErrFull {
			t.Errorf("a text of %d bytes: %.60q %v", n, r, err)
		}
	}
}

func TestTextOfWrongTerms(t *testing.T) {
	for name, x := range wrong() {
		if r, err := term.Text(x); r != "" || err != api.ErrArg {
			t.Errorf("%s: Text = %.60q %v", name, r, err)
		}
	}
}

func wantSignatureText(t *testing.T, g api.Signature, want string) {
	t.Helper()
	if r, err := term.TextSignature(g); r != want || err != api.OK {
		t.Errorf("TextSignature(%v) = %q %v, want %q", g, r, err, want)
	}
}

func TestTextSignature(t *testing.T) {
	wantSignatureText(t, api.Signature{}, "")
	wantSignatureText(t, peano(), "sort nat\nop zero() -> nat\nop s(nat) -> nat\n")
	wantSignatureText(t, signature([]string{"b", "a"}), "sort b\nsort a\n")
	wantSignatureText(t, signature([]string{"a", "b"}, decl("z", "b", "a", "b", "a"), decl("f", "a")),
		"sort a\nsort b\nop z(a, b, a) -> b\nop f() -> a\n")
	wantSignatureText(t, signature([]string{"a"}, decl("f", "a", "a", "a", "a", "a", "a", "a")), "sort a\nop f(a, a, a, a, a, a) -> a\n")
}
