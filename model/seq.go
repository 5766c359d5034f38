package model

import (
	"slices"

	"heartwood/api"
)

func executeSeq(s *api.State, o api.Op) api.Res {
	switch o.Code {
	case api.SeqInsert:
		return insertElement(s, o.Args[0], o.Args[1])
	case api.SeqSum, api.SeqReverse:
		return executePart(s, o)
	case api.SeqSize:
		return number(len(s.Rows))
	}
	i := o.Args[0]
	if i < 0 || i >= len(s.Rows) {
		return failure(api.ErrRange)
	}
	value := s.Rows[i][0]
	switch o.Code {
	case api.SeqRemove:
		s.Rows = slices.Delete(s.Rows, i, i+1)
	case api.SeqSet:
		s.Rows[i][0] = o.Args[1]
	}
	return number(value)
}

func insertElement(s *api.State, i, value int) api.Res {
	switch {
	case i < 0 || i > len(s.Rows):
		return failure(api.ErrRange)
	case len(s.Rows) == maxEntries:
		return failure(api.ErrFull)
	}
	s.Rows = slices.Insert(s.Rows, i, []int{value})
	return number(0)
}

// executePart does an operation on the elements between two indices.
func executePart(s *api.State, o api.Op) api.Res {
	from, to := o.Args[0], o.Args[1]
	if from < 0 || from > to || to > len(s.Rows) {
		return failure(api.ErrRange)
	}
	part := s.Rows[from:to]
	if o.Code == api.SeqReverse {
		slices.Reverse(part)
		return number(0)
	}
	sum := 0
	for _, row := range part {
		sum += row[0]
	}
	return number(sum)
}
