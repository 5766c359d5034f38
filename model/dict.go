package model

import (
	"slices"

	"heartwood/api"
)

func executeDict(s *api.State, o api.Op) api.Res {
	switch o.Code {
	case api.DictPut:
		return putEntry(s, o.Args[0], o.Args[1])
	case api.DictGet:
		return getEntry(s, o.Args[0])
	case api.DictRemove:
		return removeEntry(s, o.Args[0])
	case api.DictFloor:
		return keyAt(s, countLess(s, o.Args[0]+1)-1, api.ErrNone)
	case api.DictCeiling:
		return keyAt(s, countLess(s, o.Args[0]), api.ErrNone)
	case api.DictRank:
		return number(countLess(s, o.Args[0]))
	case api.DictSelect:
		return keyAt(s, o.Args[0], api.ErrRange)
	}
	return number(len(s.Rows))
}

func putEntry(s *api.State, key, value int) api.Res {
	i, found := find(s.Rows, key)
	switch {
	case found:
		s.Rows[i][1] = value
		return number(1)
	case len(s.Rows) == maxEntries:
		return failure(api.ErrFull)
	}
	s.Rows = slices.Insert(s.Rows, i, []int{key, value})
	return number(0)
}

func getEntry(s *api.State, key int) api.Res {
	i, found := find(s.Rows, key)
	if !found {
		return failure(api.ErrNone)
	}
	return number(s.Rows[i][1])
}

func removeEntry(s *api.State, key int) api.Res {
	i, found := find(s.Rows, key)
	if !found {
		return failure(api.ErrNone)
	}
	value := s.Rows[i][1]
	s.Rows = slices.Delete(s.Rows, i, i+1)
	return number(value)
}

// countLess returns the number of keys less than key, which is the index of the first other one.
func countLess(s *api.State, key int) int {
	i, _ := find(s.Rows, key)
	return i
}

// keyAt returns the key with an index, and err if there is no such index.
func keyAt(s *api.State, i int, err api.Errno) api.Res {
	if i < 0 || i >= len(s.Rows) {
		return failure(err)
	}
	return number(s.Rows[i][0])
}
