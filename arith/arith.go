// Package arith computes with integers as the operators of expressions do, for the interpreter, the machine, and measures.
package arith

import (
	"math/bits"

	"heartwood/api"
)

// Unary returns the value of XNeg, XNot, or XLog; the part is from -MaxInt to MaxInt.
func Unary(op, a int) int {
	switch op {
	case api.XNeg:
		return -a
	case api.XNot:
		return truth(a == 0)
	}
	return bits.Len(uint(max(a, 1))) - 1
}

// Binary returns the value of an operator from XAdd to XLessEqual, XMax, or XMin, or ErrZero, or ErrBig; the parts are
// from -MaxInt to MaxInt.
func Binary(op, a, b int) (int, api.Errno) {
	switch op {
	case api.XAdd:
		return fitting(a + b)
	case api.XSub:
		return fitting(a - b)
	case api.XMul:
		if a != 0 && abs(b) > api.MaxInt/abs(a) {
			return 0, api.ErrBig
		}
		return a * b, api.OK
	case api.XDiv, api.XMod:
		if b == 0 {
			return 0, api.ErrZero
		}
		if op == api.XDiv {
			return a / b, api.OK
		}
		return a % b, api.OK
	case api.XMax:
		return max(a, b), api.OK
	case api.XMin:
		return min(a, b), api.OK
	}
	return compare(op, a, b), api.OK
}

func compare(op, a, b int) int {
	switch op {
	case api.XEqual:
		return truth(a == b)
	case api.XNotEqual:
		return truth(a != b)
	case api.XLess:
		return truth(a < b)
	}
	return truth(a <= b)
}

func fitting(n int) (int, api.Errno) {
	if abs(n) > api.MaxInt {
		return 0, api.ErrBig
	}
	return n, api.OK
}

func abs(n int) int { return max(n, -n) }

func truth(b bool) int {
	if b {
		return 1
	}
	return 0
}
