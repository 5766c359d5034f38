package model

import (
	"slices"

	"heartwood/api"
)

// maxEntries is how many entries, elements, points, or characters a state has at most.
const maxEntries = 500

// Valid reports whether a state is valid, and so canonical.
func Valid(s api.State) bool {
	switch s.Kind {
	case api.Dict:
		return isTable(s.Rows, 2) && ascends(s.Rows, 1)
	case api.Heap:
		return isTable(s.Rows, 1) && slices.IsSortedFunc(s.Rows, slices.Compare[[]int])
	case api.Seq:
		return isTable(s.Rows, 1)
	case api.Sets:
		return isPartition(s.Rows)
	case api.Range:
		return isTable(s.Rows, 3) && ascends(s.Rows, 2)
	case api.Text:
		return isText(s.Rows)
	}
	return false
}

// isTable reports whether there are not too many rows, and each has so many numbers, which are not too great.
func isTable(rows [][]int, columns int) bool {
	if len(rows) > maxEntries {
		return false
	}
	for _, row := range rows {
		if len(row) != columns || !areKeys(row) {
			return false
		}
	}
	return true
}

// ascends reports whether the first columns of each row of a table are greater than those of the row before it.
func ascends(rows [][]int, columns int) bool {
	for i := 1; i < len(rows); i++ {
		if slices.Compare(rows[i-1][:columns], rows[i][:columns]) >= 0 {
			return false
		}
	}
	return true
}

func isPartition(rows [][]int) bool {
	n, ok := countElements(rows)
	if !ok {
		return false
	}
	var seen [maxEntries]bool
	for _, row := range rows {
		for k, a := range row {
			if a < 0 || a >= n || seen[a] || k > 0 && a < row[k-1] {
				return false
			}
			seen[a] = true
		}
	}
	return ascends(rows, 1)
}

// countElements returns the number of elements of all rows, and whether there are not too many, and no row is empty.
func countElements(rows [][]int) (int, bool) {
	n := 0
	for _, row := range rows {
		n += len(row)
		if len(row) == 0 || n > maxEntries {
			return 0, false
		}
	}
	return n, true
}

func isText(rows [][]int) bool {
	switch len(rows) {
	case 0:
		return true
	case 1:
		n := len(rows[0])
		return 1 <= n && n <= maxEntries && areCharacters(rows[0])
	}
	return false
}

// copied returns a state whose rows share no memory with s, nor with each other.
func copied(s api.State) api.State {
	rows := make([][]int, len(s.Rows))
	for i, row := range s.Rows {
		rows[i] = slices.Clone(row)
	}
	return api.State{Kind: s.Kind, Rows: rows}
}

// find returns the index of the first row that is not less than the given columns, and whether it begins with them.
func find(rows [][]int, columns ...int) (int, bool) {
	return slices.BinarySearchFunc(rows, columns, compareBeginning)
}

// compareBeginning compares as many columns of a row as there are in columns.
func compareBeginning(row, columns []int) int {
	return slices.Compare(row[:len(columns)], columns)
}
