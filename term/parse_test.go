package term_test

import (
	"slices"
	"strconv"
	"strings"
	"testing"

	"heartwood/api"
	"heartwood/term"
)

func at(line, column int) api.Pos { return api.Pos{Line: line, Column: column} }

func isZeroSignature(g api.Signature) bool { return len(g.Sorts) == 0 && len(g.Ops) == 0 }

// sameSignature reports whether signatures are equal; nil and empty lists are the same.
func sameSignature(a, b api.Signature) bool {
	return slices.Equal(a.Sorts, b.Sorts) && slices.EqualFunc(a.Ops, b.Ops, func(x, y api.Decl) bool {
		return x.Name == y.Name && x.Result == y.Result && slices.Equal(x.Args, y.Args)
	})
}

// P2.6: Parse

func wantParse(t *testing.T, text string, want api.Term) {
	t.Helper()
	if x, place, err := term.Parse(text); err != api.OK || place != (api.Pos{}) || !same(x, want) {
		t.Errorf("Parse(%q) = %v %v %v, want %v", text, x, place, err, want)
	}
}

func wantNoParse(t *testing.T, text string, want api.Errno, place api.Pos) {
	t.Helper()
	if x, p, err := term.Parse(text); err != want || p != place || !isZero(x) {
		t.Errorf("Parse(%.60q) = %v %v %v, want %v %v", text, x, p, err, place, want)
	}
}

func TestParse(t *testing.T) {
	wantParse(t, "zero()", zero())
	wantParse(t, "X:nat", nat("X"))
	wantParse(t, "s(X:nat)", s(nat("X")))
	wantParse(t, "f(x:s, g(y:s))", op("f", variable("x", "s"), op("g", variable("y", "s"))))
	wantParse(t, "f(x:s,g(y:s),x:s)", op("f", variable("x", "s"), op("g", variable("y", "s")), variable("x", "s")))
	wantParse(t, " f\n(\tx # comment )\n: s\r\n)  # end", op("f", variable("x", "s")))
	wantParse(t, "a(b(), c(), d(), e(), f(), g())", op("a", op("b"), op("c"), op("d"), op("e"), op("f"), op("g")))
	wantParse(t, "x(x:x, x())", op("x", variable("x", "x"), op("x")))
	wantParse(t, longName('a')+"("+longName('b')+":"+longName('c')+")", op(longName('a'), variable(longName('b'), longName('c'))))
}

func TestParseOfFaults(t *testing.T) {
	wantNoParse(t, "f(!", api.ErrForm, at(1, 3))
	wantNoParse(t, ") 01", api.ErrForm, at(1, 3))
	wantNoParse(t, "f(\n  "+longName('a')+"a", api.ErrForm, at(2, 3))
	wantNoParse(t, strings.Repeat(" ", api.MaxText+1), api.ErrFull, at(0, 0))
	wantNoParse(t, "!"+strings.Repeat("(", api.MaxText), api.ErrFull, at(0, 0))
}

func TestParseOfWrongTokens(t *testing.T) {
	wantNoParse(t, "", api.ErrEnd, at(1, 1))
	wantNoParse(t, " # f()\n", api.ErrEnd, at(2, 1))
	wantNoParse(t, "f", api.ErrEnd, at(1, 2))
	wantNoParse(t, "f(", api.ErrEnd, at(1, 3))
	wantNoParse(t, "f(\ng()", api.ErrEnd, at(2, 4))
	wantNoParse(t, "f(x:s,", api.ErrEnd, at(1, 7))
	wantNoParse(t, "x:", api.ErrEnd, at(1, 3))
	wantNoParse(t, "x:s:s", api.ErrForm, at(1, 4))
	wantNoParse(t, "x:s()", api.ErrForm, at(1, 4))
	wantNoParse(t, "x:s y:s", api.ErrForm, at(1, 5))
	wantNoParse(t, "f()\n)", api.ErrForm, at(2, 1))
	wantNoParse(t, "f(,)", api.ErrForm, at(1, 3))
	wantNoParse(t, "f(x:s,)", api.ErrForm, at(1, 7))
	wantNoParse(t, "f(x:s y:s)", api.ErrForm, at(1, 7))
	wantNoParse(t, "f(x)", api.ErrForm, at(1, 4))
	wantNoParse(t, "f(1)", api.ErrForm, at(1, 3))
	wantNoParse(t, "x:int", api.ErrForm, at(1, 3))
	wantNoParse(t, "x:1", api.ErrForm, at(1, 3))
	wantNoParse(t, "if()", api.ErrForm, at(1, 1))
	wantNoParse(t, "f{}", api.ErrForm, at(1, 2))
	wantNoParse(t, "0", api.ErrForm, at(1, 1))
	wantNoParse(t, "f() -> s", api.ErrForm, at(1, 5))
}

func TestParseOfTermsThatAreTooBig(t *testing.T) {
	wantNoParse(t, "f(a(), b(), c(), d(), e(), f(), g())", api.ErrFull, at(0, 0))
	wantNoParse(t, "f(g(a:s, a:s, a:s, a:s, a:s, a:s, a:s))", api.ErrFull, at(0, 0))
	wantParse(t, plainText(tower(api.MaxNest-1, nat("x"))), tower(api.MaxNest-1, nat("x")))
	wantNoParse(t, plainText(tower(api.MaxNest, nat("x"))), api.ErrFull, at(0, 0))
	wantParse(t, plainText(bush(api.MaxSize, zero())), bush(api.MaxSize, zero()))
	wantNoParse(t, plainText(bush(api.MaxSize+1, zero())), api.ErrFull, at(0, 0))
	deep := strings.Repeat("f(", 20000) + strings.Repeat(")", 20000)
	wantNoParse(t, deep, api.ErrFull, at(0, 0))
	wantNoParse(t, "f("+strings.Repeat("a:s,", 10000)+"a:s)", api.ErrFull, at(0, 0))
}

func TestParseOfTwoSorts(t *testing.T) {
	wantNoParse(t, "f(x:a, x:b)", api.ErrType, at(0, 0))
	wantNoParse(t, "f(x:a, g(y:a, h(x:b)))", api.ErrType, at(0, 0))
	wantParse(t, "f(x:a, X:b, x(), a:a)", op("f", variable("x", "a"), variable("X", "b"), op("x"), variable("a", "a")))
}

func TestFirstErrorOfParse(t *testing.T) {
	seven := "f(x:a, x:b, c(), d(), e(), f(), g())"
	wantNoParse(t, seven, api.ErrFull, at(0, 0))
	wantNoParse(t, seven+")", api.ErrForm, at(1, len(seven)+1))
	wantNoParse(t, "g("+seven, api.ErrEnd, at(1, len(seven)+3))
	wantNoParse(t, "f(x:a, x:b,", api.ErrEnd, at(1, 12))
	wantNoParse(t, seven+" 01 )", api.ErrForm, at(1, len(seven)+2))
	wantNoParse(t, ") !", api.ErrForm, at(1, 3))
	wantNoParse(t, strings.Repeat("f(", 30000), api.ErrEnd, at(1, 60001))
	wantNoParse(t, strings.Repeat("f(", 30000)+",", api.ErrForm, at(1, 60001))
}

// sentences returns the texts of terms with at most n tokens, with a space after each token.
func sentences(n int) []string {
	var l []string
	if n >= 3 {
		l = append(l, "a : a ", "a ( ) ")
	}
	if n >= 6 {
		l = append(l, around("a ( ", partLists(n-3), ") ")...)
	}
	return l
}

// partLists returns the texts of lists of parts with at most n tokens.
func partLists(n int) []string {
	var l []string
	for _, first := range sentences(n) {
		l = append(l, first)
		l = append(l, around(first+", ", partLists(n-1-strings.Count(first, " ")), "")...)
	}
	return l
}

func around(before string, l []string, after string) []string {
	r := make([]string, len(l))
	for i := range l {
		r[i] = before + l[i] + after
	}
	return r
}

// prefixes returns all beginnings of texts whose tokens have a space after them; the whole texts have the value true.
func prefixes(texts []string) map[string]bool {
	known := map[string]bool{"": false}
	for _, text := range texts {
		for i := range text {
			if text[i] == ' ' && !known[text[:i+1]] {
				known[text[:i+1]] = i+1 == len(text)
			}
		}
	}
	return known
}

// checkFaults looks at the places of faults: at the end of all beginnings with at most n tokens, and at each of the
// tokens after them that cannot stand there. Whole texts have the zero place, and one of the errors of whole.
func checkFaults(t *testing.T, known map[string]bool, n int, tokens []string, parse func(string) (api.Pos, api.Errno), whole ...api.Errno) {
	t.Helper()
	for before := range known {
		if strings.Count(before, " ") > n {
			continue
		}
		place, err := parse(before)
		if known[before] && (place != at(0, 0) || !slices.Contains(whole, err)) {
			t.Errorf("%q: %v %v", before, place, err)
		}
		if !known[before] && (place != at(1, len(before)+1) || err != api.ErrEnd) {
			t.Errorf("%q: %v %v", before, place, err)
		}
		for _, token := range tokens {
			if _, can := known[before+token+" "]; can {
				continue
			}
			for _, after := range []string{"", " a ( )", " 5 )"} {
				if place, err := parse(before + token + after); err != api.ErrForm || place != at(1, len(before)+1) {
					t.Errorf("%q: %v %v", before+token+after, place, err)
				}
			}
		}
	}
}

func TestAllPlacesOfWrongTokens(t *testing.T) {
	known := prefixes(sentences(16))
	if len(known) < 200 {
		t.Fatal(len(known))
	}
	tokens := []string{"a", ":", "(", ")", ",", "5", "if", "sort", "->", "="}
	checkFaults(t, known, 9, tokens, func(text string) (api.Pos, api.Errno) {
		_, place, err := term.Parse(text)
		return place, err
	}, api.OK)
}

// P2.6: ParseSignature

func wantSignature(t *testing.T, text string, want api.Signature) {
	t.Helper()
	if g, place, err := term.ParseSignature(text); err != api.OK || place != (api.Pos{}) || !sameSignature(g, want) {
		t.Errorf("ParseSignature(%q) = %v %v %v, want %v", text, g, place, err, want)
	}
}

func wantNoSignature(t *testing.T, text string, want api.Errno, place api.Pos) {
	t.Helper()
	if g, p, err := term.ParseSignature(text); err != want || p != place || !isZeroSignature(g) {
		t.Errorf("ParseSignature(%.60q) = %v %v %v, want %v %v", text, g, p, err, place, want)
	}
}

func TestParseSignature(t *testing.T) {
	wantSignature(t, "", api.Signature{})
	wantSignature(t, " # nothing\n", api.Signature{})
	wantSignature(t, "sort nat\nop zero() -> nat\nop s(nat) -> nat\n", peano())
	wantSignature(t, "sort nat op zero() -> nat op s(nat) -> nat", peano())
	wantSignature(t, "sort\nnat # numbers\n\nop zero ( ) ->\nnat\top s(nat)->nat", peano())
	wantSignature(t, "sort b sort a", signature([]string{"b", "a"}))
	wantSignature(t, "sort a op f(a, a,a ,a, a, a) -> a", signature([]string{"a"}, decl("f", "a", "a", "a", "a", "a", "a", "a")))
}

func TestParseSignatureOfFaults(t *testing.T) {
	wantNoSignature(t, "sort nat\nop zero() > nat", api.ErrForm, at(2, 11))
	wantNoSignature(t, "op op 01", api.ErrForm, at(1, 7))
	wantNoSignature(t, strings.Repeat(" ", api.MaxText+1), api.ErrFull, at(0, 0))
}

func TestParseSignatureOfWrongTokens(t *testing.T) {
	wantNoSignature(t, "sort", api.ErrEnd, at(1, 5))
	wantNoSignature(t, "sort a\nop f", api.ErrEnd, at(2, 5))
	wantNoSignature(t, "op f(", api.ErrEnd, at(1, 6))
	wantNoSignature(t, "op f(a", api.ErrEnd, at(1, 7))
	wantNoSignature(t, "op f(a,", api.ErrEnd, at(1, 8))
	wantNoSignature(t, "op f()", api.ErrEnd, at(1, 7))
	wantNoSignature(t, "op f() ->\n", api.ErrEnd, at(2, 1))
	wantNoSignature(t, "op f() - > a", api.ErrForm, at(1, 10))
	wantNoSignature(t, "op f() - a", api.ErrForm, at(1, 8))
	wantNoSignature(t, "sort a b", api.ErrForm, at(1, 8))
	wantNoSignature(t, "sort a, b", api.ErrForm, at(1, 7))
	wantNoSignature(t, "sort a op f() -> a\nsort b", api.ErrForm, at(2, 1))
	wantNoSignature(t, "nat", api.ErrForm, at(1, 1))
	wantNoSignature(t, "sort int", api.ErrForm, at(1, 6))
	wantNoSignature(t, "op new() -> a", api.ErrForm, at(1, 4))
	wantNoSignature(t, "op f(,) -> a", api.ErrForm, at(1, 6))
	wantNoSignature(t, "op f(a,) -> a", api.ErrForm, at(1, 8))
	wantNoSignature(t, "op f(a a) -> a", api.ErrForm, at(1, 8))
	wantNoSignature(t, "op f(x:a) -> a", api.ErrForm, at(1, 7))
	wantNoSignature(t, "op f -> a", api.ErrForm, at(1, 6))
	wantNoSignature(t, "rule f()", api.ErrForm, at(1, 1))
}

func TestParseOfWrongSignatures(t *testing.T) {
	wantNoSignature(t, "op f() -> a", api.ErrArg, at(0, 0))
	wantNoSignature(t, "sort a op f(b) -> a", api.ErrArg, at(0, 0))
	wantNoSignature(t, "sort a sort a", api.ErrArg, at(0, 0))
	wantNoSignature(t, "sort a op f() -> a op f(a) -> a", api.ErrArg, at(0, 0))
	wantNoSignature(t, "sort a op f(a, a, a, a, a, a, a) -> a", api.ErrArg, at(0, 0))
	wantNoSignature(t, "sort a sort a op f(", api.ErrEnd, at(1, 20))
	wantNoSignature(t, "sort a sort a )", api.ErrForm, at(1, 15))
	var many strings.Builder
	for i := range 41 {
		many.WriteString("sort s" + strconv.Itoa(i) + "\n")
	}
	wantNoSignature(t, many.String(), api.ErrArg, at(0, 0))
	many.Reset()
	many.WriteString("sort a\n")
	for i := range api.MaxRules + 1 {
		many.WriteString("op c" + strconv.Itoa(i) + "() -> a\n")
	}
	wantNoSignature(t, many.String(), api.ErrArg, at(0, 0))
}

// signatureSentences returns the texts with at most 7 sorts and 3 operations with at most 6 arguments each; all names
// are the same, so that most of the signatures are not valid.
func signatureSentences() []string {
	var l []string
	for i := range 8 {
		level := []string{strings.Repeat("sort a ", i)}
		l = append(l, level...)
		for range 3 {
			var next []string
			for args := range 7 {
				list := strings.TrimSuffix(strings.Repeat("a , ", args), ", ")
				next = append(next, around("", level, "op a ( "+list+") -> a ")...)
			}
			l, level = append(l, next...), next
		}
	}
	return l
}

func TestAllPlacesOfWrongTokensInSignatures(t *testing.T) {
	known := prefixes(signatureSentences())
	known[""] = true
	tokens := []string{"a", "sort", "op", "(", ")", ",", "->", "-", "5", ":", "if"}
	checkFaults(t, known, 12, tokens, func(text string) (api.Pos, api.Errno) {
		_, place, err := term.ParseSignature(text)
		return place, err
	}, api.OK, api.ErrArg)
}

// P2.7

func TestTermsAreReadFromTheirTexts(t *testing.T) {
	all := slices.Concat(small(), ascending(), []api.Term{tower(api.MaxNest-1, nat("x")), bush(api.MaxSize, nat("x")), withText(t, api.MaxText)})
	for _, l := range someTerms() {
		all = append(all, l...)
	}
	for _, x := range all {
		r, err := term.Text(x)
		if err != api.OK {
			t.Fatal(err)
		}
		wantParse(t, r, x)
		if len(r) < 2000 {
			wantParse(t, strings.ReplaceAll(r, " ", ""), x)
			wantParse(t, strings.NewReplacer(" ", "\n", "(", " (# a\n", ":", " : ").Replace(r), x)
		}
	}
}

// greatest is a valid signature with as many sorts, operations, and arguments as there can be, and with long names.
func greatest() api.Signature {
	g := api.Signature{}
	for i := range 40 {
		g.Sorts = append(g.Sorts, strings.Repeat("s", api.MaxName-2)+strconv.Itoa(10+i))
	}
	for i := range api.MaxRules {
		g.Ops = append(g.Ops, decl(strings.Repeat("f", api.MaxName-3)+strconv.Itoa(100+i), g.Sorts[i%40],
			g.Sorts[39], g.Sorts[0], g.Sorts[i%7], g.Sorts[i%11], g.Sorts[i%13], g.Sorts[i%40]))
	}
	return g
}

func TestSignaturesAreReadFromTheirTexts(t *testing.T) {
	for _, g := range []api.Signature{{}, peano(), mixed(), greatest(), signature(sorts(40), constants(api.MaxRules, "s7")...)} {
		r, err := term.TextSignature(g)
		if err != api.OK {
			t.Fatal(err)
		}
		wantSignature(t, r, g)
		wantSignature(t, strings.ReplaceAll(r, "\n", " "), g)
	}
}

func TestWhatIsReadIsNew(t *testing.T) {
	const text = "sort a op f(a, a) -> a"
	g, _, _ := term.ParseSignature(text)
	g.Sorts[0], g.Ops[0].Args[0], g.Ops[0].Args[1] = "b", "b", "c"
	g.Ops[0].Name = "g"
	wantSignature(t, text, signature([]string{"a"}, decl("f", "a", "a", "a")))
	x, _, _ := term.Parse("f(g(a:a), g(a:a))")
	spoil(x.L[0])
	if !same(x.L[1], op("g", variable("a", "a"))) {
		t.Error(x)
	}
	wantParse(t, "f(g(a:a), g(a:a))", op("f", op("g", variable("a", "a")), op("g", variable("a", "a"))))
}
