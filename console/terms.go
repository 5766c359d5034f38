package console

import (
	"slices"
	"strconv"
	"strings"

	"heartwood/api"
	"heartwood/pathorder"
	"heartwood/ratio"
	"heartwood/term"
	"heartwood/unify"
)

// cut divides words at the first one that is a given word, but not the first of them; there must be words after it.
func cut(words []string, at string) ([]string, []string, bool) {
	i := 1 + slices.Index(words[1:], at)
	if i == 0 || i+1 == len(words) {
		return nil, nil, false
	}
	return words[:i], words[i+1:], true
}

// terms reads two terms with the word with between them.
func terms(words []string) (api.Term, api.Term, api.Errno) {
	left, right, ok := cut(words, "with")
	if !ok {
		return api.Term{}, api.Term{}, api.ErrForm
	}
	a, _, err := term.Parse(strings.Join(left, " "))
	if err != api.OK {
		return api.Term{}, api.Term{}, err
	}
	b, _, err := term.Parse(strings.Join(right, " "))
	return a, b, err
}

func unifyTerms(words []string) (string, api.Errno) {
	a, b, err := terms(words)
	if err != api.OK {
		return "", err
	}
	bindings, err := unify.Unify(a, b)
	if err != api.OK {
		return "", err
	}
	var texts []string
	for _, x := range bindings {
		t, err := term.Text(x.T)
		if err != api.OK {
			return "", err
		}
		texts = append(texts, x.Name+" = "+t)
	}
	text := strings.Join(texts, "; ")
	if len(text) > api.MaxText {
		return "", api.ErrFull
	}
	return text, api.OK
}

func compareTerms(words []string) (string, api.Errno) {
	ops, rest, ok := cut(words, "than")
	if !ok {
		return "", api.ErrForm
	}
	a, b, err := terms(rest)
	if err != api.OK {
		return "", err
	}
	greater, err := pathorder.Greater(ops, a, b)
	return strconv.FormatBool(greater), err
}

func compute(words []string) (string, api.Errno) {
	var operation func(a, b api.Frac) (api.Frac, api.Errno)
	switch words[1] {
	case "+":
		operation = ratio.Add
	case "-":
		operation = ratio.Sub
	case "*":
		operation = ratio.Mul
	case "/":
		operation = ratio.Div
	case "<":
	default:
		return "", api.ErrForm
	}
	a, err := ratio.Parse(words[0])
	if err != api.OK {
		return "", err
	}
	b, err := ratio.Parse(words[2])
	if err != api.OK {
		return "", err
	}
	if operation == nil {
		n, err := ratio.Cmp(a, b)
		return strconv.Itoa(n), err
	}
	x, err := operation(a, b)
	if err != api.OK {
		return "", err
	}
	return ratio.Text(x)
}
