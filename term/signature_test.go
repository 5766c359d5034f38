package term_test

import (
	"reflect"
	"strconv"
	"testing"

	"heartwood/api"
	"heartwood/term"
)

// P2.1: ValidSignature

// sorts returns n different names.
func sorts(n int) []string {
	l := make([]string, n)
	for i := range l {
		l[i] = "s" + strconv.Itoa(i)
	}
	return l
}

// constants returns n different operations without arguments.
func constants(n int, sort string) []api.Decl {
	l := make([]api.Decl, n)
	for i := range l {
		l[i] = decl("c"+strconv.Itoa(i), sort)
	}
	return l
}

func TestValidSignature(t *testing.T) {
	for i, g := range []api.Signature{
		{}, {Sorts: []string{}, Ops: []api.Decl{}}, peano(), mixed(),
		signature([]string{"a"}), signature([]string{"b", "a"}, decl("a", "a", "b", "b")),
		signature([]string{longName('a')}, decl(longName('b'), longName('a'))),
		signature([]string{"nat", "Nat", "NAT"}, decl("nat", "nat"), decl("Nat", "NAT", "Nat")),
		signature([]string{"a"}, decl("f", "a", "a", "a", "a", "a", "a", "a")),
		signature(sorts(40)), signature(sorts(40), constants(api.MaxRules, "s39")...),
	} {
		if !term.ValidSignature(g) {
			t.Errorf("%d: ValidSignature(%v) = false", i, g)
		}
	}
}

// wrongSignatures has signatures that are not valid.
func wrongSignatures() map[string]api.Signature {
	return map[string]api.Signature{
		"no sort of a result":   signature(nil, decl("f", "a")),
		"other sort, result":    signature([]string{"a"}, decl("f", "b")),
		"empty result":          signature([]string{"a"}, decl("f", "")),
		"operation as a result": signature([]string{"a"}, decl("f", "f")),
		"other sort, argument":  signature([]string{"a"}, decl("f", "a", "a", "b")),
		"empty argument":        signature([]string{"a"}, decl("f", "a", "")),
		"a sort twice":          signature([]string{"a", "b", "a"}),
		"an operation twice":    signature([]string{"a"}, decl("f", "a"), decl("g", "a"), decl("f", "a", "a")),
		"empty sort":            signature([]string{""}),
		"keyword as a sort":     signature([]string{"int"}),
		"number as a sort":      signature([]string{"a", "1"}),
		"long sort":             signature([]string{longName('a') + "a"}),
		"empty operation":       signature([]string{"a"}, decl("", "a")),
		"keyword as operation":  signature([]string{"a"}, decl("new", "a")),
		"blank in an operation": signature([]string{"a"}, decl("f g", "a")),
		"long operation":        signature([]string{"a"}, decl(longName('f')+"f", "a")),
		"seven arguments":       signature([]string{"a"}, decl("f", "a", "a", "a", "a", "a", "a", "a", "a")),
		"too many sorts":        signature(sorts(41)),
		"too many operations":   signature([]string{"a"}, constants(api.MaxRules+1, "a")...),
		"very many sorts":       signature(make([]string, 1<<20)),
		"very many operations":  {Sorts: []string{"a"}, Ops: make([]api.Decl, 1<<20)},
		"very many arguments":   signature([]string{"a"}, decl("f", "a", make([]string, 1<<20)...)),
	}
}

func TestWrongSignatures(t *testing.T) {
	for name, g := range wrongSignatures() {
		if term.ValidSignature(g) {
			t.Errorf("%s: ValidSignature = true", name)
		}
		for _, x := range []api.Term{variable("x", "a"), op("f"), {}} {
			if term.Valid(g, x) {
				t.Errorf("%s: Valid(%v) = true", name, x)
			}
			if sort, err := term.Sort(g, x); sort != "" || err != api.ErrArg {
				t.Errorf("%s: Sort(%v) = %q %v", name, x, sort, err)
			}
		}
		if text, err := term.TextSignature(g); text != "" || err != api.ErrArg {
			t.Errorf("%s: TextSignature = %.60q %v", name, text, err)
		}
	}
}

func TestValidSignatureChangesNothing(t *testing.T) {
	g := mixed()
	term.ValidSignature(g)
	term.Valid(g, zero())
	term.TextSignature(g)
	if !reflect.DeepEqual(g, mixed()) {
		t.Error(g)
	}
}

// P2.1: Valid and Sort

func wantSort(t *testing.T, g api.Signature, x api.Term, want string, wantErr api.Errno) {
	t.Helper()
	before := clone(x)
	if sort, err := term.Sort(g, x); sort != want || err != wantErr {
		t.Errorf("Sort(%v) = %q %v, want %q %v", x, sort, err, want, wantErr)
	}
	if term.Valid(g, x) != (wantErr == api.OK) {
		t.Errorf("Valid(%v) = %v", x, wantErr != api.OK)
	}
	if !same(x, before) {
		t.Errorf("%v has become %v", before, x)
	}
}

func TestSort(t *testing.T) {
	g := mixed()
	wantSort(t, peano(), s(nat("X")), "nat", api.OK)
	wantSort(t, peano(), zero(), "nat", api.OK)
	wantSort(t, g, variable("zero", "pile"), "pile", api.OK)
	wantSort(t, g, nat("x"), "nat", api.OK)
	wantSort(t, g, op("less", zero(), s(nat("x"))), "flag", api.OK)
	wantSort(t, g, op("push", op("top", op("empty")), variable("p", "pile")), "pile", api.OK)
	wantSort(t, g, op("pick", variable("b", "flag"), nat("x"), nat("x")), "nat", api.OK)
	wantSort(t, g, op("six", zero(), op("yes"), op("empty"), nat("a"), variable("b", "flag"), variable("c", "pile")), "pile", api.OK)
	wantSort(t, g, api.Term{Name: "yes", L: []api.Term{}}, "flag", api.OK)
	wantSort(t, g, tower(api.MaxNest-1, zero()), "nat", api.OK)
	wantSort(t, api.Signature{}, zero(), "", api.ErrName)
	for sort, terms := range someTerms() {
		for _, x := range terms {
			wantSort(t, g, x, sort, api.OK)
		}
	}
}

func TestSortOfUnknownNames(t *testing.T) {
	g := mixed()
	wantSort(t, g, op("one"), "", api.ErrName)
	wantSort(t, g, op("nat"), "", api.ErrName)
	wantSort(t, g, op("Zero"), "", api.ErrName)
	wantSort(t, g, variable("x", "zero"), "", api.ErrName)
	wantSort(t, g, variable("x", "Nat"), "", api.ErrName)
	wantSort(t, g, s(op("one")), "", api.ErrName)
	wantSort(t, g, op("one", op("s", zero(), zero())), "", api.ErrName)
	wantSort(t, g, op("less", zero(), s(s(op("one", zero())))), "", api.ErrName)
}

func TestSortOfWrongNumbersOfParts(t *testing.T) {
	g := mixed()
	wantSort(t, peano(), op("s", zero(), zero()), "", api.ErrSize)
	wantSort(t, g, op("zero", zero()), "", api.ErrSize)
	wantSort(t, g, op("s"), "", api.ErrSize)
	wantSort(t, g, s(op("s")), "", api.ErrSize)
	wantSort(t, g, op("less", zero(), op("pick", zero(), zero())), "", api.ErrSize)
}

func TestSortOfWrongTypes(t *testing.T) {
	g := mixed()
	wantSort(t, g, s(op("yes")), "", api.ErrType)
	wantSort(t, g, s(variable("x", "flag")), "", api.ErrType)
	wantSort(t, g, s(variable("x", "unknown")), "", api.ErrType)
	wantSort(t, g, op("less", zero(), op("empty")), "", api.ErrType)
	wantSort(t, g, op("push", op("empty"), zero()), "", api.ErrType)
	wantSort(t, g, tower(20, op("top", zero())), "", api.ErrType)
}

// The first node in preorder counts, and in a node the unknown name, then the number of parts, then the sorts.
func TestFirstErrorOfSort(t *testing.T) {
	g := mixed()
	wantSort(t, g, op("s", op("yes"), op("one")), "", api.ErrSize)
	wantSort(t, g, op("less", op("yes"), op("one")), "", api.ErrType)
	wantSort(t, g, op("less", op("one"), op("yes")), "", api.ErrType)
	wantSort(t, g, op("less", op("s"), op("one")), "", api.ErrSize)
	wantSort(t, g, op("less", op("one"), op("s")), "", api.ErrName)
	wantSort(t, g, op("less", s(op("yes")), op("s")), "", api.ErrType)
	wantSort(t, g, op("less", s(op("one")), op("s")), "", api.ErrName)
	wantSort(t, g, op("less", s(op("s")), op("s", op("one"))), "", api.ErrSize)
	// The part yes() with a part has an own sort, though it is not right itself.
	wantSort(t, g, s(op("yes", zero())), "", api.ErrType)
	wantSort(t, g, s(op("zero", zero())), "", api.ErrSize)
}

func TestSortOfWrongTerms(t *testing.T) {
	for name, x := range wrong() {
		for _, g := range []api.Signature{mixed(), {}} {
			if sort, err := term.Sort(g, x); sort != "" || err != api.ErrArg {
				t.Errorf("%s: Sort = %q %v", name, sort, err)
			}
			if term.Valid(g, x) {
				t.Errorf("%s: Valid = true", name)
			}
		}
	}
}
