package suffixindex

import (
	"slices"

	"heartwood/api"
	"heartwood/wavelet"
)

const (
	sigma  = 257 // of the transform: the bytes, and none
	height = 9   // of its wavelet tree
	step   = 16  // from one suffix whose row is kept to the next one
)

// Index is a compressed index of a text. A row is the place of a suffix in the order of all, the empty one included.
type Index struct {
	n       int
	tree    *wavelet.Tree // of the transform without none, so that the longest texts fit, too
	at      int           // where none stands
	first   [257]int      // the first row of the suffixes that begin with a byte, and the number of rows
	rows    []int         // those of the suffixes 0, step, 2 step, ..
	numbers map[int]int   // the suffixes of these rows
}

// Make returns the index of a text.
func Make(s string) (*Index, api.Errno) {
	if len(s) > api.MaxNodes {
		return nil, api.ErrFull
	}
	order := suffixes(s)
	l, at := transform(s, order)
	tree, err := wavelet.Make(slices.Delete(l, at, at+1), sigma)
	if err != api.OK {
		return nil, err
	}
	x := &Index{n: len(s), tree: tree, at: at, numbers: map[int]int{}}
	for _, c := range []byte(s) {
		x.first[int(c)+1]++
	}
	x.first[0] = 1
	for c := range 256 {
		x.first[c+1] += x.first[c]
	}
	x.rows = make([]int, len(s)/step+1)
	for row, i := range append([]int{len(s)}, order...) {
		if i%step == 0 {
			x.rows[i/step] = row
			x.numbers[row] = i
		}
	}
	return x, api.OK
}

// isMade reports whether an index has been made of a text.
func (x *Index) isMade() bool { return x != nil && x.tree != nil }

// rank returns how many of the first rows have a byte before their suffix.
func (x *Index) rank(c byte, row int) int {
	if row > x.at {
		row--
	}
	n, _ := x.tree.Rank(int(c), row)
	return n
}

// longer returns the byte before the suffix of a row, which is not the whole text, and the row of the suffix with it.
func (x *Index) longer(row int) (byte, int) {
	i := row
	if row > x.at {
		i--
	}
	c, _ := x.tree.Get(i)
	return byte(c), x.first[c] + x.rank(byte(c), row)
}

// Len returns the number of bytes.
func (x *Index) Len() int {
	if x == nil {
		return 0
	}
	return x.n
}

// Space returns the number of the bits of a wavelet tree of the transform.
func (x *Index) Space() int {
	if !x.isMade() {
		return 0
	}
	return height * (x.n + 1)
}

// found returns the rows of the suffixes that begin with a pattern.
func (x *Index) found(p string) (int, int, api.Errno) {
	if !x.isMade() {
		return 0, 0, api.ErrArg
	}
	if len(p) > api.MaxNodes {
		return 0, 0, api.ErrFull
	}
	from, to := 0, x.n+1
	for _, c := range slices.Backward([]byte(p)) {
		if from == to {
			break
		}
		from, to = x.first[c]+x.rank(c, from), x.first[c]+x.rank(c, to)
	}
	return from, to, api.OK
}

// Count returns the number of indices at which a pattern occurs.
func (x *Index) Count(p string) (int, api.Errno) {
	from, to, err := x.found(p)
	return to - from, err
}

// Locate returns the indices at which a pattern occurs.
func (x *Index) Locate(p string) ([]int, api.Errno) {
	from, to, err := x.found(p)
	var l []int
	for row := from; row < to; row++ {
		l = append(l, x.number(row))
	}
	slices.Sort(l)
	return l, err
}

// number returns the number of the suffix of a row.
func (x *Index) number(row int) int {
	more := 0
	for {
		if i, known := x.numbers[row]; known {
			return i + more
		}
		_, row = x.longer(row)
		more++
	}
}

// Extract returns the bytes with the indices from from to to - 1.
func (x *Index) Extract(from, to int) (string, api.Errno) {
	if !x.isMade() {
		return "", api.ErrArg
	}
	if from < 0 || from > to || to > x.n {
		return "", api.ErrRange
	}
	// The row of the next suffix that is kept, or that of the empty one.
	at, row := x.n, 0
	if k := (to + step - 1) / step; k < len(x.rows) {
		at, row = k*step, x.rows[k]
	}
	b := make([]byte, to-from)
	for at > from {
		var c byte
		c, row = x.longer(row)
		if at--; at < to {
			b[at-from] = c
		}
	}
	return string(b), api.OK
}
