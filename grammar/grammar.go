// Package grammar reads terms and signatures from tokens, for the packages whose texts contain them.
package grammar

import "heartwood/api"

// Reader has the tokens that are not read yet, of which the last one is a TokEnd. Its methods read what they are named
// for, and report whether it stands there; if not, the first of the rest is the token that cannot stand where it stands.
type Reader struct{ rest []api.Token }

// New returns a reader of the tokens of a text.
func New(tokens []api.Token) *Reader { return &Reader{tokens} }

// AtEnd reports whether everything has been read.
func (r *Reader) AtEnd() bool { return r.rest[0].Kind == api.TokEnd }

// Fault returns the place of the token that cannot stand where it stands, and what is wrong with it.
func (r *Reader) Fault() (api.Pos, api.Errno) {
	if r.AtEnd() {
		return r.rest[0].At, api.ErrEnd
	}
	return r.rest[0].At, api.ErrForm
}

func (r *Reader) text(kind int, text string) bool {
	if r.rest[0].Kind != kind || r.rest[0].Text != text {
		return false
	}
	r.rest = r.rest[1:]
	return true
}

// Symbol reads a symbol.
func (r *Reader) Symbol(s string) bool { return r.text(api.TokSymbol, s) }

// Keyword reads a keyword.
func (r *Reader) Keyword(s string) bool { return r.text(api.TokKeyword, s) }

// Name reads a name.
func (r *Reader) Name() (string, bool) {
	if r.rest[0].Kind != api.TokName {
		return "", false
	}
	s := r.rest[0].Text
	r.rest = r.rest[1:]
	return s, true
}

// Names reads all names that stand here.
func (r *Reader) Names() []string {
	var l []string
	for {
		s, ok := r.Name()
		if !ok {
			return l
		}
		l = append(l, s)
	}
}

// Term reads a term.
func (r *Reader) Term() (api.Term, bool) {
	name, ok := r.Name()
	if !ok {
		return api.Term{}, false
	}
	if r.Symbol(":") {
		sort, ok := r.Name()
		return api.Term{Name: name, Sort: sort}, ok
	}
	parts, ok := list(r, r.Term)
	return api.Term{Name: name, L: parts}, ok
}

// Signature reads the sorts and operations of a signature.
func (r *Reader) Signature() (api.Signature, bool) {
	var g api.Signature
	for r.Keyword("sort") {
		s, ok := r.Name()
		if !ok {
			return g, false
		}
		g.Sorts = append(g.Sorts, s)
	}
	for r.Keyword("op") {
		d, ok := r.decl()
		if !ok {
			return g, false
		}
		g.Ops = append(g.Ops, d)
	}
	return g, true
}

func (r *Reader) decl() (api.Decl, bool) {
	name, ok := r.Name()
	if !ok {
		return api.Decl{}, false
	}
	args, ok := list(r, r.Name)
	if !ok || !r.Symbol("->") {
		return api.Decl{}, false
	}
	result, ok := r.Name()
	return api.Decl{Name: name, Args: args, Result: result}, ok
}

// list reads elements in parentheses, with commas between them.
func list[T any](r *Reader, element func() (T, bool)) ([]T, bool) {
	if !r.Symbol("(") {
		return nil, false
	}
	if r.Symbol(")") {
		return nil, true
	}
	var l []T
	for {
		x, ok := element()
		if !ok {
			return nil, false
		}
		l = append(l, x)
		if r.Symbol(")") {
			return l, true
		}
		if !r.Symbol(",") {
			return nil, false
		}
	}
}
