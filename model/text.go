package model

import (
	"slices"

	"heartwood/api"
)

func executeText(s *api.State, o api.Op) api.Res {
	text := charactersOf(s)
	switch o.Code {
	case api.TextAppend:
		return appendCharacters(s, text, o.Args)
	case api.TextCount:
		return number(len(places(text, o.Args)))
	case api.TextFind:
		l := places(text, o.Args)
		if len(l) == 0 {
			return failure(api.ErrNone)
		}
		return number(l[0])
	}
	return number(len(text))
}

func charactersOf(s *api.State) []int {
	if len(s.Rows) == 0 {
		return nil
	}
	return s.Rows[0]
}

func appendCharacters(s *api.State, text, l []int) api.Res {
	if len(text)+len(l) > maxEntries {
		return failure(api.ErrFull)
	}
	s.Rows = [][]int{append(text, l...)}
	return number(0)
}

// places returns the indices at which a pattern occurs in a text, in ascending order.
func places(text, pattern []int) []int {
	var l []int
	for i := range len(text) - len(pattern) + 1 {
		if slices.Equal(text[i:i+len(pattern)], pattern) {
			l = append(l, i)
		}
	}
	return l
}
