package arith_test

import (
	"math/big"
	"testing"

	"heartwood/api"
	"heartwood/arith"
)

func values() []int {
	return []int{0, 1, -1, 2, -2, 3, 7, -7, 1 << 20, -1 << 20, 1<<20 + 1, 1 << 39, -1 << 39, api.MaxInt - 1, 1 - api.MaxInt, api.MaxInt, -api.MaxInt}
}

func TestBinary(t *testing.T) {
	limit := big.NewInt(api.MaxInt)
	exact := map[int]func(z, a, b *big.Int) *big.Int{api.XAdd: (*big.Int).Add, api.XSub: (*big.Int).Sub, api.XMul: (*big.Int).Mul, api.XDiv: (*big.Int).Quo, api.XMod: (*big.Int).Rem}
	for op, f := range exact {
		for _, a := range values() {
			for _, b := range values() {
				n, err := arith.Binary(op, a, b)
				if b == 0 && (op == api.XDiv || op == api.XMod) {
					if n != 0 || err != api.ErrZero {
						t.Error(op, a, b, n, err)
					}
					continue
				}
				z := f(new(big.Int), big.NewInt(int64(a)), big.NewInt(int64(b)))
				if z.CmpAbs(limit) > 0 {
					if n != 0 || err != api.ErrBig {
						t.Error(op, a, b, n, err)
					}
				} else if int64(n) != z.Int64() || err != api.OK {
					t.Error(op, a, b, n, err)
				}
			}
		}
	}
	truth := map[bool]int{true: 1}
	for _, a := range values() {
		for _, b := range values() {
			for op, want := range map[int]int{api.XMax: max(a, b), api.XMin: min(a, b), api.XEqual: truth[a == b], api.XNotEqual: truth[a != b], api.XLess: truth[a < b], api.XLessEqual: truth[a <= b]} {
				if n, err := arith.Binary(op, a, b); n != want || err != api.OK {
					t.Error(op, a, b, n, err)
				}
			}
		}
	}
}

func TestUnary(t *testing.T) {
	for a, want := range map[int]int{-5: 0, 0: 0, 1: 0, 2: 1, 3: 1, 4: 2, 1023: 9, 1024: 10, api.MaxInt - 1: 39, api.MaxInt: 40, -api.MaxInt: 0} {
		if n := arith.Unary(api.XLog, a); n != want {
			t.Error(a, n)
		}
		if n := arith.Unary(api.XNeg, a); n != -a {
			t.Error(a, n)
		}
	}
	if arith.Unary(api.XNot, 0) != 1 || arith.Unary(api.XNot, 1) != 0 {
		t.Error("not")
	}
}
