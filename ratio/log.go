package ratio

import (
	"math/bits"

	"heartwood/api"
)

// FloorLog returns the greatest k such that 2^k is at most n.
func FloorLog(n int) (int, api.Errno) {
	if n < 1 || n > api.MaxInt {
		return 0, api.ErrRange
	}
	return bits.Len64(uint64(n)) - 1, api.OK
}

// CeilLog returns the least k such that 2^k is at least n.
func CeilLog(n int) (int, api.Errno) {
	if n < 1 || n > api.MaxInt {
		return 0, api.ErrRange
	}
	return bits.Len64(uint64(n - 1)), api.OK
}

// Root returns the greatest k such that k * k is at most n.
func Root(n int) (int, api.Errno) {
	if n < 0 || n > api.MaxInt {
		return 0, api.ErrRange
	}
	root := 0
	for bit := 1 << (bits.Len64(api.MaxInt) / 2); bit > 0; bit /= 2 {
		if with := root + bit; with*with <= n {
			root = with
		}
	}
	return root, api.OK
}
