package model

import (
	"slices"

	"heartwood/api"
)

func executeRange(s *api.State, o api.Op) api.Res {
	switch o.Code {
	case api.RangeAdd:
		return addPoint(s, o.Args[0], o.Args[1], o.Args[2])
	case api.RangeRemove:
		return removePoint(s, o.Args[0], o.Args[1])
	case api.RangeSize:
		return number(len(s.Rows))
	}
	count, sum := inRectangle(s, o.Args)
	if o.Code == api.RangeCount {
		return number(count)
	}
	return number(sum)
}

func addPoint(s *api.State, x, y, weight int) api.Res {
	i, found := find(s.Rows, x, y)
	switch {
	case found:
		return failure(api.ErrExists)
	case len(s.Rows) == maxEntries:
		return failure(api.ErrFull)
	}
	s.Rows = slices.Insert(s.Rows, i, []int{x, y, weight})
	return number(0)
}

func removePoint(s *api.State, x, y int) api.Res {
	i, found := find(s.Rows, x, y)
	if !found {
		return failure(api.ErrNone)
	}
	weight := s.Rows[i][2]
	s.Rows = slices.Delete(s.Rows, i, i+1)
	return number(weight)
}

// inRectangle returns the number of the points of a rectangle, and the sum of their weights; its borders are the least
// and the greatest x, and the least and the greatest y.
func inRectangle(s *api.State, borders []int) (count, sum int) {
	for _, point := range s.Rows {
		x, y := point[0], point[1]
		if borders[0] <= x && x <= borders[1] && borders[2] <= y && y <= borders[3] {
			count++
			sum += point[2]
		}
	}
	return count, sum
}
