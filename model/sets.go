package model

import (
	"slices"

	"heartwood/api"
)

func executeSets(s *api.State, o api.Op) api.Res {
	switch o.Code {
	case api.SetsMake:
		return makeElement(s)
	case api.SetsCount:
		return number(len(s.Rows))
	}
	// The last argument is the second element, or the only one.
	a, b := classOf(s, o.Args[0]), classOf(s, o.Args[len(o.Args)-1])
	switch {
	case a < 0 || b < 0:
		return failure(api.ErrNone)
	case o.Code == api.SetsUnion:
		return unite(s, min(a, b), max(a, b))
	case o.Code == api.SetsSame:
		return truth(a == b)
	}
	return number(len(s.Rows[a]))
}

func makeElement(s *api.State) api.Res {
	n, _ := countElements(s.Rows)
	if n == maxEntries {
		return failure(api.ErrFull)
	}
	s.Rows = append(s.Rows, []int{n})
	return number(n)
}

// classOf returns the index of the class of an element, or -1.
func classOf(s *api.State, element int) int {
	for i, class := range s.Rows {
		if _, found := slices.BinarySearch(class, element); found {
			return i
		}
	}
	return -1
}

// unite adds the class b to the class a, which begins with the lesser element and so keeps its place.
func unite(s *api.State, a, b int) api.Res {
	if a == b {
		return truth(false)
	}
	s.Rows[a] = append(s.Rows[a], s.Rows[b]...)
	slices.Sort(s.Rows[a])
	s.Rows = slices.Delete(s.Rows, b, b+1)
	return truth(true)
}
