package term

import (
	"heartwood/api"
	"heartwood/grammar"
	"heartwood/lex"
)

// Parse returns the term of a text, or the place of what cannot stand there.
func Parse(s string) (api.Term, api.Pos, api.Errno) {
	tokens, at, err := lex.Tokens(s)
	if err != api.OK {
		return api.Term{}, at, err
	}
	r := grammar.New(tokens)
	t, ok := r.Term()
	if !ok || !r.AtEnd() {
		at, err = r.Fault()
		return api.Term{}, at, err
	}
	if !fits(t) {
		return api.Term{}, api.Pos{}, api.ErrFull
	}
	if _, agree := variableSorts(t); !agree {
		return api.Term{}, api.Pos{}, api.ErrType
	}
	return t, api.Pos{}, api.OK
}

// ParseSignature returns the signature of a text, or the place of what cannot stand there.
func ParseSignature(s string) (api.Signature, api.Pos, api.Errno) {
	tokens, at, err := lex.Tokens(s)
	if err != api.OK {
		return api.Signature{}, at, err
	}
	r := grammar.New(tokens)
	g, ok := r.Signature()
	if !ok || !r.AtEnd() {
		at, err = r.Fault()
		return api.Signature{}, at, err
	}
	if !ValidSignature(g) {
		return api.Signature{}, api.Pos{}, api.ErrArg
	}
	return g, api.Pos{}, api.OK
}
