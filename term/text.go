package term

import (
	"strings"

	"heartwood/api"
)

// Text returns the text of t.
func Text(t api.Term) (string, api.Errno) {
	if !wellFormed(t) {
		return "", api.ErrArg
	}
	var b strings.Builder
	writeTerm(&b, t)
	return limited(&b)
}

// TextSignature returns the text of g.
func TextSignature(g api.Signature) (string, api.Errno) {
	if !ValidSignature(g) {
		return "", api.ErrArg
	}
	var b strings.Builder
	for _, s := range g.Sorts {
		b.WriteString("sort " + s + "\n")
	}
	for _, d := range g.Ops {
		b.WriteString("op " + d.Name + "(" + strings.Join(d.Args, ", ") + ") -> " + d.Result + "\n")
	}
	return limited(&b)
}

func writeTerm(b *strings.Builder, t api.Term) {
	b.WriteString(t.Name)
	if isVariable(t) {
		b.WriteString(":" + t.Sort)
		return
	}
	b.WriteString("(")
	for i := range t.L {
		if i > 0 {
			b.WriteString(", ")
		}
		writeTerm(b, t.L[i])
	}
	b.WriteString(")")
}

func limited(b *strings.Builder) (string, api.Errno) {
	if b.Len() > api.MaxText {
		return "", api.ErrFull
	}
	return b.String(), api.OK
}
