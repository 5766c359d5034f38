package lex_test

import (
	"slices"
	"strconv"
	"strings"
	"testing"

	"heartwood/api"
	"heartwood/lex"
)

const keywordList = "type var proc local measure invariant potential bound if else while return new nil true false and or not max min log int bool this sort op rule spec desc script"

const symbolList = "( ) { } [ ] , ; : . = == != < <= + - * / % ->"

func name(s string) api.Token    { return api.Token{Kind: api.TokName, Text: s} }
func keyword(s string) api.Token { return api.Token{Kind: api.TokKeyword, Text: s} }
func symbol(s string) api.Token  { return api.Token{Kind: api.TokSymbol, Text: s} }
func number(n int) api.Token     { return api.Token{Kind: api.TokInt, N: n} }
func end() api.Token             { return api.Token{Kind: api.TokEnd} }

func at(t api.Token, line, column int) api.Token {
	t.At = api.Pos{Line: line, Column: column}
	return t
}

// plain returns the tokens without their positions.
func plain(l []api.Token) []api.Token {
	l = slices.Clone(l)
	for i := range l {
		l[i].At = api.Pos{}
	}
	return l
}

func wantTokens(t *testing.T, s string, want ...api.Token) {
	t.Helper()
	l, p, e := lex.Tokens(s)
	if e != api.OK || p != (api.Pos{}) || !slices.Equal(l, want) {
		t.Errorf("Tokens(%q) = %v %v %v, want %v", s, l, p, e, want)
	}
}

// wantPlain is wantTokens without positions, and without the end.
func wantPlain(t *testing.T, s string, want ...api.Token) {
	t.Helper()
	l, p, e := lex.Tokens(s)
	if e != api.OK || p != (api.Pos{}) || !slices.Equal(plain(l), append(slices.Clone(want), end())) {
		t.Errorf("Tokens(%q) = %v %v %v, want %v", s, l, p, e, want)
	}
}

func wantFault(t *testing.T, s string, line, column int) {
	t.Helper()
	l, p, e := lex.Tokens(s)
	if e != api.ErrForm || p != (api.Pos{Line: line, Column: column}) || len(l) != 0 {
		t.Errorf("Tokens(%.60q) = %v %v %v, want a fault at %d:%d", s, l, p, e, line, column)
	}
}

// P1.1

func TestIsName(t *testing.T) {
	longest := strings.Repeat("a", api.MaxName)
	for _, s := range []string{"a", "z", "A", "Z", "x1", "a_", "Zz_9", "iff", "If", "THIS", "types", "scriptx", "heap", longest, "Z" + strings.Repeat("_", api.MaxName-1)} {
		if !lex.IsName(s) {
			t.Errorf("IsName(%q) = false", s)
		}
	}
	for _, s := range []string{"", "_", "_a", "1", "1a", "a b", " a", "a ", "a\n", "a-b", "a.b", "a#", "\xe9", "a\xe9", "é", "aé", "a\x00", "==", "@", "[", "`", "{", "a@", "a[", "a`", "a{", "a/", "a:", longest + "a", strings.Repeat("a", api.MaxText+1)} {
		if lex.IsName(s) {
			t.Errorf("IsName(%.60q) = true", s)
		}
	}
}

func TestIsKeyword(t *testing.T) {
	list := strings.Fields(keywordList)
	if len(list) != 31 {
		t.Fatal(len(list))
	}
	for _, s := range list {
		if !lex.IsKeyword(s) || lex.IsName(s) {
			t.Errorf("%q is no keyword, or a name", s)
		}
		for _, other := range []string{strings.ToUpper(s), s + "_", "_" + s, s + " ", " " + s, s + s, s[:1]} {
			if lex.IsKeyword(other) {
				t.Errorf("IsKeyword(%q) = true", other)
			}
		}
	}
	for _, s := range []string{"", "a", "0", "(", "for", "func", "func type", "dict", "global", "nul", "nill", "string"} {
		if lex.IsKeyword(s) {
			t.Errorf("IsKeyword(%q) = true", s)
		}
	}
}

// someTokens has tokens of each kind, with the limits.
func someTokens() []api.Token {
	l := []api.Token{name("a"), name("Zz_9"), name(strings.Repeat("b", api.MaxName)), number(0), number(7), number(10), number(1234567890), number(api.MaxInt)}
	for _, s := range strings.Fields(keywordList) {
		l = append(l, keyword(s))
	}
	for _, s := range strings.Fields(symbolList) {
		l = append(l, symbol(s))
	}
	return l
}

// wrongTokens has tokens that are not valid.
func wrongTokens() []api.Token {
	return []api.Token{
		{}, {Kind: -1}, {Kind: 6}, {Kind: 6, Text: "a"}, {Kind: 1 << 40},
		{Text: "a"}, {N: 1},
		name(""), name("if"), name("1"), name("_a"), name("a b"), name("("), name(strings.Repeat("b", api.MaxName+1)),
		{Kind: api.TokName, Text: "a", N: 1}, {Kind: api.TokName, Text: "a", N: -1}, {Kind: api.TokName, N: 1},
		keyword(""), keyword("a"), keyword("If"), keyword("if "), keyword("("), keyword("0"),
		{Kind: api.TokKeyword, Text: "if", N: 1},
		symbol(""), symbol("a"), symbol("if"), symbol("!"), symbol(">"), symbol(">="), symbol("=>"), symbol("=<"), symbol("&"), symbol("()"), symbol("==="), symbol("<=="), symbol("->>"), symbol("--"), symbol("= "), symbol(" ="), symbol("#"), symbol("_"), symbol("\""), symbol("0"),
		{Kind: api.TokSymbol, Text: "(", N: 1},
		number(-1), number(api.MaxInt + 1), number(-1 << 63), number(1<<63 - 1),
		{Kind: api.TokInt, Text: "1", N: 1}, {Kind: api.TokInt, Text: "0"}, {Kind: api.TokInt, Text: " "},
		{Kind: api.TokEnd, Text: "a"}, {Kind: api.TokEnd, Text: " "}, {Kind: api.TokEnd, N: 1}, {Kind: api.TokEnd, N: -1},
	}
}

func TestValid(t *testing.T) {
	for _, x := range append(someTokens(), end()) {
		for _, p := range []api.Pos{{}, {Line: 3, Column: 4}, {Line: -1, Column: 1 << 50}} {
			x.At = p
			if !lex.Valid(x) {
				t.Errorf("Valid(%v) = false", x)
			}
		}
	}
	for _, x := range wrongTokens() {
		if lex.Valid(x) {
			t.Errorf("Valid(%v) = true", x)
		}
		x.At = api.Pos{Line: 1, Column: 1}
		if lex.Valid(x) {
			t.Errorf("Valid(%v) = true", x)
		}
	}
}

// P1.2

func TestTokensOfTexts(t *testing.T) {
	wantTokens(t, "x.left<=3 # no", at(name("x"), 1, 1), at(symbol("."), 1, 2), at(name("left"), 1, 3), at(symbol("<="), 1, 7), at(number(3), 1, 9), at(end(), 1, 15))
	wantTokens(t, "", at(end(), 1, 1))
	wantTokens(t, " \t\r", at(end(), 1, 4))
	wantTokens(t, "\n", at(end(), 2, 1))
	wantTokens(t, "#", at(end(), 1, 2))
	wantTokens(t, "# \xff\x00 ! > 01 #\r\n\r\n\t# b", at(end(), 3, 5))
	wantTokens(t, "if\n\n  a\t", at(keyword("if"), 1, 1), at(name("a"), 3, 3), at(end(), 3, 5))
	wantTokens(t, "a#b\nc", at(name("a"), 1, 1), at(name("c"), 2, 1), at(end(), 2, 2))
	wantTokens(t, "\ta\r\n\t\tb", at(name("a"), 1, 2), at(name("b"), 2, 3), at(end(), 2, 4))
	wantTokens(t, "0 1099511627776", at(number(0), 1, 1), at(number(api.MaxInt), 1, 3), at(end(), 1, 16))
	wantTokens(t, "a\r# x\rb", at(name("a"), 1, 1), at(end(), 1, 8))
}

func TestSymbolsAreAsLongAsPossible(t *testing.T) {
	for _, s := range strings.Fields(symbolList) {
		wantTokens(t, s, at(symbol(s), 1, 1), at(end(), 1, 1+len(s)))
	}
	wantPlain(t, "===", symbol("=="), symbol("="))
	wantPlain(t, "====", symbol("=="), symbol("=="))
	wantPlain(t, "= =", symbol("="), symbol("="))
	wantPlain(t, "=#\n=", symbol("="), symbol("="))
	wantPlain(t, "<==", symbol("<="), symbol("="))
	wantPlain(t, "<<=", symbol("<"), symbol("<="))
	wantPlain(t, "=!==", symbol("="), symbol("!="), symbol("="))
	wantPlain(t, "=<=->", symbol("="), symbol("<="), symbol("->"))
	wantPlain(t, "-->-", symbol("-"), symbol("->"), symbol("-"))
	wantPlain(t, "-1", symbol("-"), number(1))
	wantPlain(t, "(){}[],;:.+-*/%", symbol("("), symbol(")"), symbol("{"), symbol("}"), symbol("["), symbol("]"), symbol(","), symbol(";"), symbol(":"), symbol("."), symbol("+"), symbol("-"), symbol("*"), symbol("/"), symbol("%"))
}

func TestWordsAreAsLongAsPossible(t *testing.T) {
	wantPlain(t, "ifx if x", name("ifx"), keyword("if"), name("x"))
	wantPlain(t, "true1 true_ True", name("true1"), name("true_"), name("True"))
	wantPlain(t, "x1.y2", name("x1"), symbol("."), name("y2"))
	wantPlain(t, "1.5", number(1), symbol("."), number(5))
	for _, s := range strings.Fields(keywordList) {
		wantPlain(t, s, keyword(s))
	}
	longest := strings.Repeat("q", api.MaxName)
	wantPlain(t, longest, name(longest))
}

func TestFaults(t *testing.T) {
	wantFault(t, "a = 01", 1, 5)
	wantFault(t, "a ! b", 1, 3)
	wantFault(t, "1099511627777", 1, 1)
	wantFault(t, "9"+strings.Repeat("0", 100), 1, 1)
	wantFault(t, "18446744073709551616", 1, 1)
	wantFault(t, "18446744073709551617", 1, 1)
	wantFault(t, "00", 1, 1)
	wantFault(t, "a 00", 1, 3)
	wantFault(t, "1a", 1, 1)
	wantFault(t, "0x", 1, 1)
	wantFault(t, "1_0", 1, 1)
	wantFault(t, "_", 1, 1)
	wantFault(t, "a _if", 1, 3)
	wantFault(t, "a\n  # c !\n\t "+strings.Repeat("q", api.MaxName+1), 3, 3)
	wantFault(t, "a!", 1, 2)
	wantFault(t, "a! =", 1, 2)
	wantFault(t, "a<=>b", 1, 4)
	wantFault(t, "->>", 1, 3)
	wantFault(t, "a \xc3\xa9", 1, 3)
	wantFault(t, "a\xc3\xa9", 1, 2)
	wantFault(t, "\x00", 1, 1)
	wantFault(t, "a\vb", 1, 2)
	wantFault(t, "a\n\fb", 2, 1)
	wantFault(t, "\"a\"", 1, 1)
	wantFault(t, "a // 0b", 1, 6)
}

// The first fault counts, whether it is a word or a byte.
func TestFirstFault(t *testing.T) {
	wantFault(t, "a 01 !", 1, 3)
	wantFault(t, "a ! 01", 1, 3)
	wantFault(t, "a\n _ ! 01", 2, 2)
	wantFault(t, "! _", 1, 1)
}

func TestTokensSizeOfText(t *testing.T) {
	most := strings.Repeat(" ", api.MaxText)
	wantTokens(t, most, at(end(), 1, api.MaxText+1))
	wantTokens(t, most[1:]+"a", at(name("a"), 1, api.MaxText), at(end(), 1, api.MaxText+1))
	wantFault(t, most[1:]+"!", 1, api.MaxText)
	wantFault(t, strings.Repeat("1", api.MaxText), 1, 1)
	for _, s := range []string{most + " ", most + "!", "!" + most, most + most, "01" + most} {
		if l, p, e := lex.Tokens(s); e != api.ErrFull || p != (api.Pos{}) || len(l) != 0 {
			t.Error(len(s), len(l), p, e)
		}
	}
	l, _, e := lex.Tokens(strings.Repeat("(", api.MaxText))
	if e != api.OK || len(l) != api.MaxText+1 {
		t.Error(len(l), e)
	}
}

// oracle divides a text of at most two bytes by a list of all such tokens.
func oracle(s string) ([]api.Token, int) {
	const letters = "ABCDEFGHIJKLMNOPQRSTUVWXYZabcdefghijklmnopqrstuvwxyz"
	const digits = "0123456789"
	isWord := func(i int) bool { return i < len(s) && strings.IndexByte(letters+digits+"_", s[i]) >= 0 }
	symbols := strings.Fields(symbolList)
	var l []api.Token
	for i := 0; i < len(s); {
		n := 1
		if isWord(i) && isWord(i+1) {
			n = 2
		}
		pair := s[i:min(i+2, len(s))]
		piece := s[i : i+n]
		switch {
		case strings.IndexByte(" \t\r\n", s[i]) >= 0:
		case s[i] == '#':
			n = len(s) - i
			if pair == "#\n" {
				n = 1
			}
		case strings.IndexByte(letters, s[i]) >= 0:
			if slices.Contains(strings.Fields(keywordList), piece) {
				l = append(l, keyword(piece))
			} else {
				l = append(l, name(piece))
			}
		case strings.IndexByte(digits, s[i]) >= 0:
			v, err := strconv.Atoi(piece)
			if err != nil || strconv.Itoa(v) != piece {
				return nil, i
			}
			l = append(l, number(v))
		case slices.Contains(symbols, pair):
			l, n = append(l, symbol(pair)), len(pair)
		case slices.Contains(symbols, piece):
			l = append(l, symbol(piece))
		default:
			return nil, i
		}
		i += n
	}
	return append(l, end()), -1
}

// position returns the position of the byte of a text with an index.
func position(s string, i int) api.Pos {
	before := s[:i]
	return api.Pos{Line: 1 + strings.Count(before, "\n"), Column: i - strings.LastIndexByte(before, '\n')}
}

func TestAllTextsOfTwoBytes(t *testing.T) {
	check := func(s string) {
		want, fault := oracle(s)
		l, p, e := lex.Tokens(s)
		if fault >= 0 {
			if e != api.ErrForm || p != position(s, fault) || len(l) != 0 {
				t.Errorf("Tokens(%q) = %v %v %v", s, l, p, e)
			}
		} else if e != api.OK || p != (api.Pos{}) || !slices.Equal(plain(l), want) {
			t.Errorf("Tokens(%q) = %v %v %v, want %v", s, l, p, e, want)
		}
	}
	for a := range 256 {
		check(string([]byte{byte(a)}))
		for b := range 256 {
			check(string([]byte{byte(a), byte(b)}))
		}
	}
}

func TestTokensAreNew(t *testing.T) {
	const text = "proc f ( 1 )"
	want, _, _ := lex.Tokens(text)
	changed, _, _ := lex.Tokens(text)
	clear(changed)
	wantTokens(t, text, want...)
	if len(want) != 6 || want[0] != at(keyword("proc"), 1, 1) {
		t.Error(want)
	}
}

// P1.3

func wantJoin(t *testing.T, want string, l ...api.Token) {
	t.Helper()
	before := slices.Clone(l)
	s, e := lex.Join(l)
	if s != want || e != api.OK {
		t.Errorf("Join(%v) = %q %v, want %q", l, s, e, want)
	}
	if !slices.Equal(l, before) {
		t.Errorf("Join changed %v to %v", before, l)
	}
}

func TestJoin(t *testing.T) {
	wantJoin(t, "")
	wantJoin(t, "", end())
	wantJoin(t, "a", name("a"))
	wantJoin(t, "a", name("a"), end())
	wantJoin(t, "0", number(0), end())
	wantJoin(t, "a < = 5", name("a"), symbol("<"), symbol("="), number(5), end())
	wantJoin(t, "if x -> 1099511627776 ( 10 )", at(keyword("if"), 9, 9), name("x"), symbol("->"), number(api.MaxInt), symbol("("), number(10), symbol(")"))
	for _, n := range []int{1, 9, 10, 11, 99, 100, 101, 123456789, 1 << 39, api.MaxInt - 1} {
		wantJoin(t, strconv.Itoa(n)+" "+strconv.Itoa(n), number(n), number(n))
	}
	if s, e := lex.Join(nil); s != "" || e != api.OK {
		t.Error(s, e)
	}
}

func wantJoinError(t *testing.T, want api.Errno, l ...api.Token) {
	t.Helper()
	if s, e := lex.Join(l); s != "" || e != want {
		t.Errorf("Join of %d tokens = %.60q %v, want %v", len(l), s, e, want)
	}
}

func TestJoinOfWrongTokens(t *testing.T) {
	for _, x := range wrongTokens() {
		wantJoinError(t, api.ErrArg, x)
		wantJoinError(t, api.ErrArg, name("a"), x)
		wantJoinError(t, api.ErrArg, x, name("a"), end())
		wantJoinError(t, api.ErrArg, x, end())
		wantJoinError(t, api.ErrArg, name("a"), end(), x)
	}
	wantJoinError(t, api.ErrArg, end(), end())
	wantJoinError(t, api.ErrArg, end(), name("a"))
	wantJoinError(t, api.ErrArg, name("a"), end(), name("b"))
	wantJoinError(t, api.ErrArg, name("a"), end(), end())
}

func TestJoinSizeOfText(t *testing.T) {
	// 2^15 symbols of one byte, and the spaces between them, are a byte less than MaxText.
	l := slices.Repeat([]api.Token{symbol("(")}, api.MaxText/2)
	s, e := lex.Join(l)
	if e != api.OK || len(s) != api.MaxText-1 {
		t.Error(len(s), e)
	}
	l[7] = symbol("->")
	s, e = lex.Join(append(l, end()))
	if e != api.OK || len(s) != api.MaxText {
		t.Error(len(s), e)
	}
	l[9] = number(10)
	wantJoinError(t, api.ErrFull, l...)
	wantJoinError(t, api.ErrFull, append(l, end())...)
	wantJoinError(t, api.ErrFull, append(l, name("a"))...)
	wantJoinError(t, api.ErrFull, slices.Repeat([]api.Token{number(api.MaxInt)}, api.MaxText)...)
	wantJoinError(t, api.ErrArg, append(l, end(), end())...)
	wantJoinError(t, api.ErrArg, append(l, name("if"))...)
}

// P1.4

// mixed returns n of the tokens that someTokens has, by a fixed rule.
func mixed(seed, n int) []api.Token {
	all := someTokens()
	l := make([]api.Token, n)
	for i := range l {
		seed = seed * 48271 % 2147483647
		l[i] = all[seed%len(all)]
	}
	return l
}

func TestJoinedTokensAreReadAgain(t *testing.T) {
	for seed := range 200 {
		l := mixed(seed+1, seed)
		for _, tail := range [][]api.Token{nil, {end()}} {
			s, e := lex.Join(append(slices.Clone(l), tail...))
			if e != api.OK {
				t.Fatal(e)
			}
			wantPlain(t, s, l...)
		}
	}
}

func TestEachPairOfTokensIsReadAgain(t *testing.T) {
	for _, a := range someTokens() {
		for _, b := range someTokens() {
			s, e := lex.Join([]api.Token{a, b})
			if e != api.OK {
				t.Fatal(e)
			}
			wantPlain(t, s, a, b)
		}
	}
}

func TestSpacesAndCommentsChangeNothing(t *testing.T) {
	gaps := []string{" ", "\t", "\r\n", "\n\n", "# x\n", "#\n", " \t# 01 ! \xff # if\r\n ", "# a\n# b\n"}
	for seed := range 100 {
		l := mixed(seed+1, 1+seed%20)
		var s strings.Builder
		for i, x := range l {
			one, _ := lex.Join([]api.Token{x})
			s.WriteString(gaps[(seed+i)%len(gaps)] + one)
		}
		wantPlain(t, s.String()+gaps[seed%len(gaps)], l...)
		wantPlain(t, s.String()+"#", l...)
	}
}

func TestPositionsAscend(t *testing.T) {
	texts := []string{"", "a", "x.left<=3 # no", "a->b\n\n==(if)\r\n\t1", "-->#\n<==", " a\n # b\nc "}
	for seed := range 50 {
		s, _ := lex.Join(mixed(seed+1, 30))
		texts = append(texts, strings.ReplaceAll(s, " -> ", "->\n"))
	}
	for _, s := range texts {
		l, _, e := lex.Tokens(s)
		if e != api.OK {
			t.Fatalf("%q: %v", s, e)
		}
		if l[len(l)-1].At != position(s, len(s)) {
			t.Errorf("%q: the end stands at %v", s, l[len(l)-1].At)
		}
		for i := 1; i < len(l); i++ {
			a, b := l[i-1].At, l[i].At
			if a.Line > b.Line || a.Line == b.Line && a.Column >= b.Column {
				t.Errorf("%q: %v stands before %v", s, l[i-1], l[i])
			}
		}
	}
}
