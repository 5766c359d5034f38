package model

import (
	"slices"

	"heartwood/api"
)

func executeHeap(s *api.State, o api.Op) api.Res {
	switch o.Code {
	case api.HeapInsert:
		return insertPriority(s, o.Args[0])
	case api.HeapMin:
		return leastPriority(s)
	case api.HeapDeleteMin:
		least := leastPriority(s)
		if least.Err == api.OK {
			s.Rows = slices.Delete(s.Rows, 0, 1)
		}
		return least
	}
	return number(len(s.Rows))
}

func insertPriority(s *api.State, p int) api.Res {
	if len(s.Rows) == maxEntries {
		return failure(api.ErrFull)
	}
	i, _ := find(s.Rows, p)
	s.Rows = slices.Insert(s.Rows, i, []int{p})
	return number(0)
}

func leastPriority(s *api.State) api.Res {
	if len(s.Rows) == 0 {
		return failure(api.ErrEmpty)
	}
	return number(s.Rows[0][0])
}
