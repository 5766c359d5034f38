package ratio_test

import (
	"math"
	"math/big"
	"testing"

	"heartwood/api"
	"heartwood/ratio"
)

const most = api.MaxFrac

func frac(num, den int) api.Frac { return api.Frac{Num: num, Den: den} }

// exact returns the value of num / den without the help of the package.
func exact(num, den int) *big.Rat { return big.NewRat(int64(num), int64(den)) }

func valueOf(a api.Frac) *big.Rat { return exact(a.Num, a.Den) }

// fitted returns the fraction with a value, or ErrBig if it does not fit.
func fitted(x *big.Rat) (api.Frac, api.Errno) {
	limit := big.NewInt(most)
	if x.Num().CmpAbs(limit) > 0 || x.Denom().Cmp(limit) > 0 {
		return api.Frac{}, api.ErrBig
	}
	return frac(int(x.Num().Int64()), int(x.Denom().Int64())), api.OK
}

// rightFracs returns valid fractions: small ones, and those at the limits.
func rightFracs() []api.Frac {
	l := []api.Frac{
		frac(most, 1), frac(-most, 1), frac(1, most), frac(-1, most), frac(most, most-1), frac(-most, most-1), frac(most-1, most), frac(1-most, most),
		frac(most-1, 1), frac(1-most, 1), frac(1, most-1), frac(most-3, 2), frac(-1, most/2), frac(3, most), frac(1<<29+1, 1<<29-1), frac(1<<15, 3), frac(3, 1<<15), frac(1<<16-1, 1<<15), frac(32768, 32767),
	}
	for num := -6; num <= 6; num++ {
		for den := 1; den <= 6; den++ {
			if x := exact(num, den); x.Denom().Int64() == int64(den) {
				l = append(l, frac(num, den))
			}
		}
	}
	return l
}

// wrongFracs returns fractions that are not valid.
func wrongFracs() []api.Frac {
	return []api.Frac{
		{}, frac(1, 0), frac(-1, 0), frac(most, 0), frac(0, 2), frac(0, most), frac(0, -1), frac(1, -1), frac(-1, -1), frac(1, -2), frac(-3, -2), frac(1, -most),
		frac(2, 2), frac(2, 4), frac(-2, 4), frac(6, 3), frac(-4, 2), frac(15, 21), frac(most, 2), frac(most, most), frac(-most, most), frac(2, most), frac(most-2, most),
		frac(most+1, 1), frac(-most-1, 1), frac(1, most+1), frac(-1, most+1), frac(most+1, most), frac(most, most+1), frac(most+1, most+2),
		frac(math.MaxInt, 1), frac(math.MinInt, 1), frac(1, math.MaxInt), frac(1, math.MinInt), frac(math.MinInt, math.MinInt), frac(math.MaxInt, math.MaxInt), frac(math.MinInt, math.MaxInt), frac(0, math.MinInt), frac(0, math.MaxInt), frac(math.MinInt, 0), frac(1<<32+1, 2), frac(1, 1<<32+1),
	}
}

func wantFrac(t *testing.T, call string, got api.Frac, err api.Errno, wanted api.Frac, wantedErr api.Errno) {
	t.Helper()
	if got != wanted || err != wantedErr {
		t.Errorf("%s = %v %v, want %v %v", call, got, err, wanted, wantedErr)
	}
}

// operation is a function of the package with two operands, and the one of big that computes the same.
type operation struct {
	name string
	do   func(a, b api.Frac) (api.Frac, api.Errno)
	big  func(z, a, b *big.Rat) *big.Rat
}

func operations() []operation {
	return []operation{
		{"Add", ratio.Add, (*big.Rat).Add},
		{"Sub", ratio.Sub, (*big.Rat).Sub},
		{"Mul", ratio.Mul, (*big.Rat).Mul},
		{"Div", ratio.Div, func(z, a, b *big.Rat) *big.Rat { return z.Quo(a, b) }},
	}
}
