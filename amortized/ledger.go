package amortized

import (
	"slices"

	"heartwood/api"
)

// First returns the index of the first entry that exceeds its bound, or -1.
func First(l []api.Entry) (int, api.Errno) {
	if !validEntries(l) {
		return 0, api.ErrArg
	}
	return slices.IndexFunc(l, func(e api.Entry) bool {
		return e.Bound != api.MaxInt && e.Actual+e.After-e.Before > e.Bound
	}), api.OK
}

// Total returns one entry for the first n entries together.
func Total(l []api.Entry, n int) (api.Entry, api.Errno) {
	if !validEntries(l) {
		return api.Entry{}, api.ErrArg
	}
	if n < 0 || n > len(l) {
		return api.Entry{}, api.ErrRange
	}
	var actual, bounds sum
	bounded := true
	for _, e := range l[:n] {
		actual.add(e.Actual)
		bounds.add(e.Bound)
		bounded = bounded && e.Bound != api.MaxInt
	}
	t := api.Entry{Bound: api.MaxInt}
	var fits, boundFits bool
	t.Actual, fits = actual.value()
	if bounded {
		t.Bound, boundFits = bounds.value()
		fits = fits && boundFits
	}
	if !fits {
		return api.Entry{}, api.ErrBig
	}
	if n > 0 {
		t.Before, t.After = l[0].Before, l[n-1].After
	}
	return t, api.OK
}

func validEntries(l []api.Entry) bool {
	return !slices.ContainsFunc(l, func(e api.Entry) bool {
		return e.Actual < 0 || !fits(e.Actual) || !fits(e.Before) || !fits(e.After) || !fits(e.Bound)
	})
}

func fits(n int) bool { return -api.MaxInt <= n && n <= api.MaxInt }

// unit is what the parts of a sum are multiples of, and less than.
const unit = 1 << 20

// sum is a sum of integers, in two parts: of very many of them one part could wrap.
type sum struct{ high, low int }

func (s *sum) add(n int) {
	s.high += n / unit
	s.low += n % unit
}

// value returns the sum, and whether it is from -MaxInt to MaxInt.
func (s sum) value() (int, bool) {
	high := s.high + s.low/unit
	if high < -api.MaxInt/unit-1 || high > api.MaxInt/unit+1 {
		return 0, false
	}
	n := high*unit + s.low%unit
	if !fits(n) {
		return 0, false
	}
	return n, true
}
