package workload

import (
	"math"
	"slices"

	"heartwood/api"
)

const maxPhases = 20

// never is the unevenness of what cannot be divided; sums with it do not wrap.
const never = math.MaxInt / 2

// Phases returns the best division of a script into at most most phases.
func Phases(kind int, l []api.Op, most int) ([]int, api.Errno) {
	switch {
	case !Valid(kind, l):
		return nil, api.ErrArg
	case most < 1 || most > maxPhases:
		return nil, api.ErrRange
	case len(l) == 0:
		return nil, api.ErrNone
	}
	least := divisions(l, most)
	phases := 1
	for k := range most + 1 {
		if least[k][0] < least[phases][0] {
			phases = k
		}
	}
	var begins []int
	for i := 0; i < len(l); phases-- {
		begins = append(begins, i)
		// The next phase begins as early as it can.
		i += 1 + slices.IndexFunc(sums(unevenness(l[i:]), least[phases-1][i+1:]), func(u int) bool { return u == least[phases][i] })
	}
	return begins, api.OK
}

// sums returns the sums of the elements of two lists.
func sums(a, b []int) []int {
	r := slices.Clone(a)
	for i, n := range b {
		r[i] += n
	}
	return r
}

// divisions returns the least unevenness of the operations from an index on, for each number of phases up to most, and
// each index.
func divisions(l []api.Op, most int) [][]int {
	least := make([][]int, most+1)
	for k := range least {
		least[k] = slices.Repeat([]int{never}, len(l)+1)
	}
	least[0][len(l)] = 0
	for i := len(l) - 1; i >= 0; i-- {
		first := unevenness(l[i:])
		for k := 1; k <= most; k++ {
			least[k][i] = min(never, slices.Min(sums(first, least[k-1][i+1:])))
		}
	}
	return least
}

// unevenness returns that of the first operation, of the first two ones, and so on.
func unevenness(l []api.Op) []int {
	r := make([]int, len(l))
	counts := map[int]int{} // of the codes
	most := 0
	for i, o := range l {
		counts[o.Code]++
		most = max(most, counts[o.Code])
		r[i] = i + 1 - most
	}
	return r
}
