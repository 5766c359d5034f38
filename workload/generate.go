package workload

import (
	"slices"

	"heartwood/api"
	"heartwood/model"
)

const (
	factor     = 48271
	modulus    = 2147483647
	characters = 3 // the most characters of an operation of a text
	maxByte    = 255
)

// sequence is a sequence of pseudorandom numbers: the last one.
type sequence struct{ last int }

func (s *sequence) next() int {
	s.last = s.last * factor % modulus
	return s.last
}

func isSeed(n int) bool { return 1 <= n && n < modulus }

// Random returns the number n of the sequence of a seed.
func Random(seed, n int) (int, api.Errno) {
	if !isSeed(seed) || n < 0 || n > api.MaxSteps {
		return 0, api.ErrRange
	}
	s := sequence{seed}
	for range n {
		s.next()
	}
	return s.last, api.OK
}

// ValidProfile reports whether a profile is valid.
func ValidProfile(p api.Profile) bool {
	if !isKind(p.Kind) || len(p.Weights) != codes(p.Kind) {
		return false
	}
	sum := 0
	for _, w := range p.Weights {
		if w < 0 || w > api.MaxOps {
			return false
		}
		sum += w
	}
	least, greatest := -api.MaxKey, api.MaxKey
	if p.Kind == api.Text {
		least, greatest = 0, maxByte
	}
	return sum > 0 && least <= p.Low && p.Low <= p.High && p.High <= greatest
}

// Generate returns the script of n operations that a profile and a seed make.
func Generate(p api.Profile, seed, n int) ([]api.Op, api.Errno) {
	if !ValidProfile(p) {
		return nil, api.ErrArg
	}
	if !isSeed(seed) || n < 0 || n > api.MaxOps {
		return nil, api.ErrRange
	}
	s := sequence{seed}
	var l []api.Op
	for range n {
		l = append(l, s.operation(p))
	}
	return l, api.OK
}

// operation makes the next operation of a profile.
func (s *sequence) operation(p api.Profile) api.Op {
	sum := 0
	for _, w := range p.Weights {
		sum += w
	}
	left := s.next() % sum
	code := 1 + slices.IndexFunc(p.Weights, func(w int) bool {
		left -= w
		return left < 0
	})
	size := arguments(p.Kind, code)
	if p.Kind == api.Text && size > 0 {
		size = 1 + s.next()%characters
	}
	o := api.Op{Code: code}
	for range size {
		o.Args = append(o.Args, p.Low+s.next()%(p.High-p.Low+1))
	}
	return o
}

// arguments returns how many arguments the operations with a code have at least.
func arguments(kind, code int) int {
	n := 0
	for n < api.MaxArgs && !model.ValidOp(kind, api.Op{Code: code, Args: make([]int, n)}) {
		n++
	}
	return n
}
