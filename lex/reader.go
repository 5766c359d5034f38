package lex

import "heartwood/api"

// reader is a place in a text: what is left of the text, and where that begins.
type reader struct {
	rest string
	at   api.Pos
}

// take returns the next n bytes, none of which is a newline, and goes on after them.
func (r *reader) take(n int) string {
	s := r.rest[:n]
	r.rest = r.rest[n:]
	r.at.Column += n
	return s
}

func (r *reader) nextLine() {
	r.rest = r.rest[1:]
	r.at = api.Pos{Line: r.at.Line + 1, Column: 1}
}

// skip goes on to the next token.
func (r *reader) skip() {
	for r.rest != "" {
		switch classify(r.rest[0]) {
		case blank:
			r.take(1)
		case newline:
			r.nextLine()
		case hash:
			r.take(commentLength(r.rest))
		default:
			return
		}
	}
}

// token returns the token that begins here, without its position, and whether there is one.
func (r *reader) token() (api.Token, bool) {
	if r.rest == "" {
		return api.Token{Kind: api.TokEnd}, true
	}
	if n := wordLength(r.rest); n > 0 {
		return wordToken(r.take(n))
	}
	if n := symbolLength(r.rest); n > 0 {
		return api.Token{Kind: api.TokSymbol, Text: copied(r.take(n))}, true
	}
	return api.Token{}, false
}

func wordToken(word string) (api.Token, bool) {
	switch {
	case IsKeyword(word):
		return api.Token{Kind: api.TokKeyword, Text: copied(word)}, true
	case IsName(word):
		return api.Token{Kind: api.TokName, Text: copied(word)}, true
	}
	n, ok := integer(word)
	if !ok {
		return api.Token{}, false
	}
	return api.Token{Kind: api.TokInt, N: n}, true
}

// copied returns s in new memory, so that a token does not keep its whole text.
func copied(s string) string {
	return string([]byte(s))
}
