package spec

import (
	"strings"

	"heartwood/api"
	"heartwood/grammar"
	"heartwood/lex"
	"heartwood/term"
)

// Text returns the text of a specification.
func Text(s api.Spec) (string, api.Errno) {
	if !Valid(s) {
		return "", api.ErrArg
	}
	sig, err := term.TextSignature(s.Sig)
	if err != api.OK {
		return "", err
	}
	var b strings.Builder
	b.WriteString("spec")
	for _, c := range s.Ctors {
		b.WriteString(" " + c)
	}
	b.WriteString("\n" + sig)
	for _, r := range s.Rules {
		left, err1 := term.Text(r.Left)
		right, err2 := term.Text(r.Right)
		if err1 != api.OK || err2 != api.OK {
			return "", api.ErrFull
		}
		b.WriteString("rule " + left + " = " + right + "\n")
	}
	if b.Len() > api.MaxText {
		return "", api.ErrFull
	}
	return b.String(), api.OK
}

// Parse returns the specification of a text, or the place of what cannot stand there.
func Parse(s string) (api.Spec, api.Pos, api.Errno) {
	tokens, place, err := lex.Tokens(s)
	if err != api.OK {
		return api.Spec{}, place, err
	}
	r := grammar.New(tokens)
	x, ok := read(r)
	if !ok || !r.AtEnd() {
		place, err = r.Fault()
		return api.Spec{}, place, err
	}
	if !Valid(x) {
		return api.Spec{}, api.Pos{}, api.ErrArg
	}
	return x, api.Pos{}, api.OK
}

func read(r *grammar.Reader) (api.Spec, bool) {
	if !r.Keyword("spec") {
		return api.Spec{}, false
	}
	s := api.Spec{Ctors: r.Names()}
	var ok bool
	if s.Sig, ok = r.Signature(); !ok {
		return s, false
	}
	for r.Keyword("rule") {
		left, ok := r.Term()
		if !ok || !r.Symbol("=") {
			return s, false
		}
		right, ok := r.Term()
		if !ok {
			return s, false
		}
		s.Rules = append(s.Rules, api.Rule{Left: left, Right: right})
	}
	return s, true
}
