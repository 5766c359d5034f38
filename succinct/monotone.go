package succinct

import (
	"sort"

	"heartwood/api"
	"heartwood/bitvector"
	"heartwood/ratio"
)

// Monotone is a list of integers that do not descend. The low bits of each number are kept as they are; the rest of the
// number i is the number of zeros before the one with the number i in high.
type Monotone struct {
	n     int
	width int // how many low bits each number has
	low   *bitvector.Vector
	high  *bitvector.Vector
}

// MakeMonotone returns a list.
func MakeMonotone(l []int) (*Monotone, api.Errno) {
	for i, n := range l {
		if n < 0 || n > api.MaxInt || i > 0 && n < l[i-1] {
			return nil, api.ErrArg
		}
	}
	if len(l) > api.MaxList {
		return nil, api.ErrFull
	}
	if len(l) == 0 {
		return &Monotone{}, api.OK
	}
	m := &Monotone{n: len(l)}
	greatest := l[len(l)-1]
	if greatest >= len(l) {
		m.width, _ = ratio.FloorLog(greatest / len(l))
	}
	low := make([]bool, m.n*m.width)
	high := make([]bool, m.n+1+greatest>>m.width)
	for i, n := range l {
		for k := range m.width {
			low[i*m.width+k] = n>>k&1 == 1
		}
		high[n>>m.width+i] = true
	}
	m.low, _ = bitvector.Make(low)
	m.high, _ = bitvector.Make(high)
	return m, api.OK
}

// Len returns how many numbers there are.
func (m *Monotone) Len() int {
	if m == nil {
		return 0
	}
	return m.n
}

// Get returns the number with an index.
func (m *Monotone) Get(i int) (int, api.Errno) {
	switch {
	case m == nil:
		return 0, api.ErrArg
	case i < 0 || i >= m.n:
		return 0, api.ErrRange
	}
	return m.get(i), api.OK
}

func (m *Monotone) get(i int) int {
	place, _ := m.high.Select(true, i)
	n := (place - i) << m.width
	for k := range m.width {
		if is, _ := m.low.Get(i*m.width + k); is {
			n |= 1 << k
		}
	}
	return n
}

// Next returns the least index of a number that is at least x, and this number.
func (m *Monotone) Next(x int) (int, int, api.Errno) {
	if m == nil {
		return 0, 0, api.ErrArg
	}
	i := sort.Search(m.n, func(i int) bool { return m.get(i) >= x })
	if i == m.n {
		return 0, 0, api.ErrNone
	}
	return i, m.get(i), api.OK
}

// Space returns the number of bits.
func (m *Monotone) Space() int {
	if m == nil {
		return 0
	}
	return m.low.Len() + m.high.Len()
}
