package term

import (
	"heartwood/api"
	"heartwood/lex"
)

// Parse returns the term of a text, or the place of what cannot stand there.
func Parse(s string) (api.Term, api.Pos, api.Errno) {
	tokens, at, err := lex.Tokens(s)
	if err != api.OK {
		return api.Term{}, at, err
	}
	p := parser{rest: tokens}
	t, ok := p.term()
	if !ok || !p.atEnd() {
		at, err = p.fault()
		return api.Term{}, at, err
	}
	if !fits(t) {
		return api.Term{}, api.Pos{}, api.ErrFull
	}
	if _, agree := variableSorts(t); !agree {
		return api.Term{}, api.Pos{}, api.ErrType
	}
	return t, api.Pos{}, api.OK
}

// ParseSignature returns the signature of a text, or the place of what cannot stand there.
func ParseSignature(s string) (api.Signature, api.Pos, api.Errno) {
	tokens, at, err := lex.Tokens(s)
	if err != api.OK {
		return api.Signature{}, at, err
	}
	p := parser{rest: tokens}
	g, ok := p.signature()
	if !ok || !p.atEnd() {
		at, err = p.fault()
		return api.Signature{}, at, err
	}
	if !ValidSignature(g) {
		return api.Signature{}, api.Pos{}, api.ErrArg
	}
	return g, api.Pos{}, api.OK
}

// parser has the tokens that are not read yet. Its methods read what they are named for, and report whether it stands
// there; if not, the first of rest is the token that cannot stand where it stands.
type parser struct{ rest []api.Token }

func (p *parser) atEnd() bool { return p.rest[0].Kind == api.TokEnd }

func (p *parser) fault() (api.Pos, api.Errno) {
	if p.atEnd() {
		return p.rest[0].At, api.ErrEnd
	}
	return p.rest[0].At, api.ErrForm
}

func (p *parser) text(kind int, text string) bool {
	if p.rest[0].Kind != kind || p.rest[0].Text != text {
		return false
	}
	p.rest = p.rest[1:]
	return true
}

func (p *parser) symbol(s string) bool  { return p.text(api.TokSymbol, s) }
func (p *parser) keyword(s string) bool { return p.text(api.TokKeyword, s) }

func (p *parser) name() (string, bool) {
	if p.rest[0].Kind != api.TokName {
		return "", false
	}
	s := p.rest[0].Text
	p.rest = p.rest[1:]
	return s, true
}

func (p *parser) term() (api.Term, bool) {
	name, ok := p.name()
	if !ok {
		return api.Term{}, false
	}
	if p.symbol(":") {
		sort, ok := p.name()
		return api.Term{Name: name, Sort: sort}, ok
	}
	parts, ok := list(p, p.term)
	return api.Term{Name: name, L: parts}, ok
}

func (p *parser) signature() (api.Signature, bool) {
	var g api.Signature
	for p.keyword("sort") {
		s, ok := p.name()
		if !ok {
			return g, false
		}
		g.Sorts = append(g.Sorts, s)
	}
	for p.keyword("op") {
		d, ok := p.decl()
		if !ok {
			return g, false
		}
		g.Ops = append(g.Ops, d)
	}
	return g, true
}

func (p *parser) decl() (api.Decl, bool) {
	name, ok := p.name()
	if !ok {
		return api.Decl{}, false
	}
	args, ok := list(p, p.name)
	if !ok || !p.symbol("->") {
		return api.Decl{}, false
	}
	result, ok := p.name()
	return api.Decl{Name: name, Args: args, Result: result}, ok
}

// list reads elements in parentheses, with commas between them.
func list[T any](p *parser, element func() (T, bool)) ([]T, bool) {
	if !p.symbol("(") {
		return nil, false
	}
	if p.symbol(")") {
		return nil, true
	}
	var l []T
	for {
		x, ok := element()
		if !ok {
			return nil, false
		}
		l = append(l, x)
		if p.symbol(")") {
			return l, true
		}
		if !p.symbol(",") {
			return nil, false
		}
	}
}
