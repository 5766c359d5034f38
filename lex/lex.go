// Package lex is layer 1: tokens of the languages of specifications, descriptions, and scripts; see shared/doc/01-lex.md.
package lex

import "heartwood/api"

// IsName reports whether s is a name.
func IsName(s string) bool {
	if s == "" || len(s) > api.MaxName {
		return false
	}
	return classify(s[0]) == letter && wordLength(s) == len(s) && !IsKeyword(s)
}

// IsKeyword reports whether s is a keyword.
func IsKeyword(s string) bool {
	switch s {
	case "type", "var", "proc", "local", "measure", "invariant", "potential", "bound",
		"if", "else", "while", "return", "new", "nil", "true", "false",
		"and", "or", "not", "max", "min", "log", "int", "bool", "this",
		"sort", "op", "rule", "spec", "desc", "script":
		return true
	}
	return false
}

// Tokens returns the tokens of a text; with ErrForm it returns the place of the fault.
func Tokens(s string) ([]api.Token, api.Pos, api.Errno) {
	if len(s) > api.MaxText {
		return nil, api.Pos{}, api.ErrFull
	}
	var l []api.Token
	r := reader{rest: s, at: api.Pos{Line: 1, Column: 1}}
	for {
		r.skip()
		at := r.at
		t, ok := r.token()
		if !ok {
			return nil, at, api.ErrForm
		}
		t.At = at
		l = append(l, t)
		if t.Kind == api.TokEnd {
			return l, api.Pos{}, api.OK
		}
	}
}

// Valid reports whether t is valid; its position does not matter.
func Valid(t api.Token) bool {
	switch t.Kind {
	case api.TokName:
		return IsName(t.Text) && t.N == 0
	case api.TokKeyword:
		return IsKeyword(t.Text) && t.N == 0
	case api.TokSymbol:
		return isSymbol(t.Text) && t.N == 0
	case api.TokInt:
		return t.Text == "" && 0 <= t.N && t.N <= api.MaxInt
	case api.TokEnd:
		return t.Text == "" && t.N == 0
	}
	return false
}

// Join returns the texts of the tokens with one space between any two.
func Join(l []api.Token) (string, api.Errno) {
	for i := range len(l) {
		if !Valid(l[i]) || l[i].Kind == api.TokEnd && i != len(l)-1 {
			return "", api.ErrArg
		}
	}
	var text []byte
	for i := range len(l) {
		if l[i].Kind == api.TokEnd {
			break
		}
		if i > 0 {
			text = append(text, ' ')
		}
		text = appendToken(text, l[i])
		if len(text) > api.MaxText {
			return "", api.ErrFull
		}
	}
	return string(text), api.OK
}

func appendToken(text []byte, t api.Token) []byte {
	if t.Kind == api.TokInt {
		return appendInt(text, t.N)
	}
	return append(text, t.Text...)
}

// appendInt is written here because the document lets this package import api alone.
func appendInt(text []byte, n int) []byte {
	if n >= 10 {
		text = appendInt(text, n/10)
	}
	return append(text, byte('0'+n%10))
}
