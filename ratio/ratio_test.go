package ratio_test

import (
	"fmt"
	"math"
	"math/big"
	"testing"

	"heartwood/api"
	"heartwood/ratio"
)

// P4.1

func TestValid(t *testing.T) {
	for _, a := range rightFracs() {
		if !ratio.Valid(a) {
			t.Errorf("Valid(%v) = false", a)
		}
	}
	for _, a := range wrongFracs() {
		if ratio.Valid(a) {
			t.Errorf("Valid(%v) = true", a)
		}
	}
	for num := -40; num <= 40; num++ {
		for den := -3; den <= 40; den++ {
			right := den > 0 && exact(num, max(den, 1)).Denom().Int64() == int64(den)
			if ratio.Valid(frac(num, den)) != right {
				t.Errorf("Valid(%d/%d) = %v", num, den, !right)
			}
		}
	}
}

func wantMake(t *testing.T, num, den int) {
	t.Helper()
	got, err := ratio.Make(num, den)
	call := fmt.Sprintf("Make(%d, %d)", num, den)
	if den == 0 {
		wantFrac(t, call, got, err, api.Frac{}, api.ErrZero)
		return
	}
	wanted, wantedErr := fitted(exact(num, den))
	wantFrac(t, call, got, err, wanted, wantedErr)
	if ratio.Valid(got) != (wantedErr == api.OK) {
		t.Errorf("%s = %v: it is valid, or not", call, got)
	}
}

func TestMake(t *testing.T) {
	ends := []int{
		most - 1, most, most + 1, 2 * most, 2*most + 2, 3 * most, 6 * most, 1 << 31, 1 << 32, 1<<32 + 1, 1 << 40, most * most, most * (most - 1), most*most + 1, 2 * most * most,
		1 << 62, 1<<62 + 1, math.MaxInt, math.MaxInt - 1, math.MinInt + 1, math.MinInt, math.MinInt + 2, math.MinInt / 2, math.MinInt / 4, 3 << 60, 15, 14, 77, 1 << 20,
	}
	for n := -8; n <= 8; n++ {
		ends = append(ends, n)
	}
	for _, num := range ends {
		for _, den := range ends {
			wantMake(t, num, den)
			wantMake(t, -num, den)
			wantMake(t, num, -den)
			wantMake(t, -num, -den)
		}
	}
}

func TestExamplesOfMake(t *testing.T) {
	for _, c := range []struct {
		num, den int
		wanted   api.Frac
		err      api.Errno
	}{
		{6, -4, frac(-3, 2), api.OK}, {0, -7, frac(0, 1), api.OK}, {0, math.MinInt, frac(0, 1), api.OK}, {-6, -4, frac(3, 2), api.OK}, {8, 4, frac(2, 1), api.OK},
		{1, most + 1, api.Frac{}, api.ErrBig}, {most + 1, 1, api.Frac{}, api.ErrBig}, {-most - 1, 1, api.Frac{}, api.ErrBig}, {2 * most, 2, frac(most, 1), api.OK},
		{-most, 1, frac(-most, 1), api.OK}, {1, -most, frac(-1, most), api.OK}, {math.MinInt, math.MinInt, frac(1, 1), api.OK}, {math.MinInt, 1, api.Frac{}, api.ErrBig}, {1, math.MinInt, api.Frac{}, api.ErrBig},
		{math.MinInt, 1 << 33, frac(-most, 1), api.OK}, {1 << 33, math.MinInt, frac(-1, most), api.OK}, {math.MaxInt, math.MaxInt, frac(1, 1), api.OK}, {math.MaxInt, -math.MaxInt, frac(-1, 1), api.OK},
		{0, 0, api.Frac{}, api.ErrZero}, {math.MinInt, 0, api.Frac{}, api.ErrZero}, {most + 1, 0, api.Frac{}, api.ErrZero},
	} {
		got, err := ratio.Make(c.num, c.den)
		wantFrac(t, fmt.Sprintf("Make(%d, %d)", c.num, c.den), got, err, c.wanted, c.err)
	}
}

// P4.2

func TestOperations(t *testing.T) {
	l := rightFracs()
	for _, o := range operations() {
		for _, a := range l {
			for _, b := range l {
				got, err := o.do(a, b)
				call := fmt.Sprintf("%s(%v, %v)", o.name, a, b)
				if o.name == "Div" && b.Num == 0 {
					wantFrac(t, call, got, err, api.Frac{}, api.ErrZero)
					continue
				}
				wanted, wantedErr := fitted(o.big(new(big.Rat), valueOf(a), valueOf(b)))
				wantFrac(t, call, got, err, wanted, wantedErr)
			}
		}
	}
}

func TestExamplesOfOperations(t *testing.T) {
	for _, c := range []struct {
		o      int
		a, b   api.Frac
		wanted api.Frac
		err    api.Errno
	}{
		{0, frac(1, 2), frac(1, 3), frac(5, 6), api.OK}, {0, frac(1, 2), frac(1, 2), frac(1, 1), api.OK}, {0, frac(most, 1), frac(-most, 1), frac(0, 1), api.OK},
		{0, frac(most, 1), frac(1, 1), api.Frac{}, api.ErrBig}, {0, frac(1, most), frac(1, 3), api.Frac{}, api.ErrBig}, {0, frac(1, most), frac(1, most), frac(1, most/2), api.OK},
		{1, frac(1, 2), frac(1, 3), frac(1, 6), api.OK}, {1, frac(1, 3), frac(1, 2), frac(-1, 6), api.OK}, {1, frac(-most, 1), frac(1, 1), api.Frac{}, api.ErrBig}, {1, frac(-most, 1), frac(-1, 1), frac(1-most, 1), api.OK},
		{2, frac(-2, 3), frac(3, 4), frac(-1, 2), api.OK}, {2, frac(most, 1), frac(1, most), frac(1, 1), api.OK}, {2, frac(most, 1), frac(2, 1), api.Frac{}, api.ErrBig}, {2, frac(1, most), frac(1, 2), api.Frac{}, api.ErrBig}, {2, frac(-most, 1), frac(-most, 1), api.Frac{}, api.ErrBig}, {2, frac(0, 1), frac(-most, 1), frac(0, 1), api.OK},
		{3, frac(1, 2), frac(-1, 4), frac(-2, 1), api.OK}, {3, frac(0, 1), frac(-3, 4), frac(0, 1), api.OK}, {3, frac(most, 1), frac(1, 2), api.Frac{}, api.ErrBig}, {3, frac(1, most), frac(-1, most), frac(-1, 1), api.OK}, {3, frac(1, 1), frac(0, 1), api.Frac{}, api.ErrZero}, {3, frac(0, 1), frac(0, 1), api.Frac{}, api.ErrZero}, {3, frac(most, 1), frac(0, 1), api.Frac{}, api.ErrZero},
	} {
		o := operations()[c.o]
		got, err := o.do(c.a, c.b)
		wantFrac(t, fmt.Sprintf("%s(%v, %v)", o.name, c.a, c.b), got, err, c.wanted, c.err)
	}
}

// ErrArg comes before ErrZero and ErrBig, whichever operand is wrong.
func TestOperationsOfWrongFracs(t *testing.T) {
	for _, wrong := range wrongFracs() {
		for _, other := range append([]api.Frac{frac(0, 1), frac(most, 1), wrong}, wrongFracs()...) {
			for _, o := range operations() {
				got, err := o.do(wrong, other)
				wantFrac(t, fmt.Sprintf("%s(%v, %v)", o.name, wrong, other), got, err, api.Frac{}, api.ErrArg)
				got, err = o.do(other, wrong)
				wantFrac(t, fmt.Sprintf("%s(%v, %v)", o.name, other, wrong), got, err, api.Frac{}, api.ErrArg)
			}
			for _, pair := range [][2]api.Frac{{wrong, other}, {other, wrong}} {
				if n, err := ratio.Cmp(pair[0], pair[1]); n != 0 || err != api.ErrArg {
					t.Errorf("Cmp(%v, %v) = %d %v", pair[0], pair[1], n, err)
				}
			}
		}
	}
}

// P4.3

func TestCmp(t *testing.T) {
	l := rightFracs()
	for _, a := range l {
		for _, b := range l {
			if n, err := ratio.Cmp(a, b); n != valueOf(a).Cmp(valueOf(b)) || err != api.OK {
				t.Errorf("Cmp(%v, %v) = %d %v", a, b, n, err)
			}
		}
	}
}

func TestFloorAndCeil(t *testing.T) {
	for _, a := range rightFracs() {
		floor, err := ratio.Floor(a)
		if err != api.OK || valueOf(a).Cmp(exact(floor, 1)) < 0 || valueOf(a).Cmp(exact(floor+1, 1)) >= 0 {
			t.Errorf("Floor(%v) = %d %v", a, floor, err)
		}
		ceil, err := ratio.Ceil(a)
		if err != api.OK || valueOf(a).Cmp(exact(ceil, 1)) > 0 || valueOf(a).Cmp(exact(ceil-1, 1)) <= 0 {
			t.Errorf("Ceil(%v) = %d %v", a, ceil, err)
		}
	}
	for a, wanted := range map[api.Frac][2]int{
		frac(-3, 2): {-2, -1}, frac(3, 2): {1, 2}, frac(0, 1): {0, 0}, frac(5, 1): {5, 5}, frac(-5, 1): {-5, -5}, frac(1, most): {0, 1}, frac(-1, most): {-1, 0},
		frac(most, 1): {most, most}, frac(-most, 1): {-most, -most}, frac(most, most-1): {1, 2}, frac(-most, most-1): {-2, -1}, frac(1-most, most): {-1, 0},
	} {
		floor, _ := ratio.Floor(a)
		if ceil, _ := ratio.Ceil(a); floor != wanted[0] || ceil != wanted[1] {
			t.Errorf("%v has the floor %d and the ceiling %d", a, floor, ceil)
		}
	}
}

func TestFloorAndCeilOfWrongFracs(t *testing.T) {
	for _, a := range wrongFracs() {
		if n, err := ratio.Floor(a); n != 0 || err != api.ErrArg {
			t.Errorf("Floor(%v) = %d %v", a, n, err)
		}
		if n, err := ratio.Ceil(a); n != 0 || err != api.ErrArg {
			t.Errorf("Ceil(%v) = %d %v", a, n, err)
		}
	}
}
