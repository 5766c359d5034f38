package ratio_test

import (
	"testing"

	"heartwood/api"
	"heartwood/ratio"
)

// P4.6

// chain does operations one after the other, and notes whether all results fit.
type chain struct{ misfit bool }

func (c *chain) do(f func(a, b api.Frac) (api.Frac, api.Errno), a, b api.Frac) api.Frac {
	if c.misfit {
		return api.Frac{}
	}
	r, err := f(a, b)
	c.misfit = err != api.OK
	return r
}

func (c *chain) add(a, b api.Frac) api.Frac { return c.do(ratio.Add, a, b) }
func (c *chain) sub(a, b api.Frac) api.Frac { return c.do(ratio.Sub, a, b) }
func (c *chain) mul(a, b api.Frac) api.Frac { return c.do(ratio.Mul, a, b) }
func (c *chain) div(a, b api.Frac) api.Frac { return c.do(ratio.Div, a, b) }

// wantLaw checks that two ways of computing agree, if all results fit, and returns whether they do.
func wantLaw(t *testing.T, law string, operands []api.Frac, left, right func(c *chain) api.Frac) bool {
	t.Helper()
	var c chain
	x, y := left(&c), right(&c)
	if !c.misfit && x != y {
		t.Errorf("%s of %v: %v and %v", law, operands, x, y)
	}
	return !c.misfit
}

func TestLawsOfTwo(t *testing.T) {
	for _, a := range rightFracs() {
		for _, b := range rightFracs() {
			l := []api.Frac{a, b}
			wantLaw(t, "a + b = b + a", l, func(c *chain) api.Frac { return c.add(a, b) }, func(c *chain) api.Frac { return c.add(b, a) })
			wantLaw(t, "a b = b a", l, func(c *chain) api.Frac { return c.mul(a, b) }, func(c *chain) api.Frac { return c.mul(b, a) })
			wantLaw(t, "a + b - b = a", l, func(c *chain) api.Frac { return c.sub(c.add(a, b), b) }, func(*chain) api.Frac { return a })
			wantLaw(t, "a - b + b = a", l, func(c *chain) api.Frac { return c.add(c.sub(a, b), b) }, func(*chain) api.Frac { return a })
			if b.Num != 0 {
				wantLaw(t, "a b / b = a", l, func(c *chain) api.Frac { return c.div(c.mul(a, b), b) }, func(*chain) api.Frac { return a })
				wantLaw(t, "a / b b = a", l, func(c *chain) api.Frac { return c.mul(c.div(a, b), b) }, func(*chain) api.Frac { return a })
			}
		}
	}
}

func TestLawsOfThree(t *testing.T) {
	held := 0
	for i, a := range rightFracs() {
		for k, b := range rightFracs() {
			for m, d := range rightFracs() {
				if (i+k+m)%3 != 0 {
					continue
				}
				l := []api.Frac{a, b, d}
				if wantLaw(t, "(a + b) + d = a + (b + d)", l, func(c *chain) api.Frac { return c.add(c.add(a, b), d) }, func(c *chain) api.Frac { return c.add(a, c.add(b, d)) }) {
					held++
				}
				wantLaw(t, "(a b) d = a (b d)", l, func(c *chain) api.Frac { return c.mul(c.mul(a, b), d) }, func(c *chain) api.Frac { return c.mul(a, c.mul(b, d)) })
				wantLaw(t, "(a + b) d = a d + b d", l, func(c *chain) api.Frac { return c.mul(c.add(a, b), d) }, func(c *chain) api.Frac { return c.add(c.mul(a, d), c.mul(b, d)) })
				wantOrderKept(t, a, b, d)
			}
		}
	}
	if held < 1000 {
		t.Error("too few results fit: ", held)
	}
}

// wantOrderKept checks that a and b are ordered as they are after adding d, and multiplying by d.
func wantOrderKept(t *testing.T, a, b, d api.Frac) {
	t.Helper()
	n, _ := ratio.Cmp(a, b)
	var c chain
	if x, y := c.add(a, d), c.add(b, d); !c.misfit {
		if after, err := ratio.Cmp(x, y); after != n || err != api.OK {
			t.Errorf("Cmp(%v, %v) is %d, and %d %v after adding %v", a, b, n, after, err, d)
		}
	}
	c = chain{}
	if x, y := c.mul(a, d), c.mul(b, d); !c.misfit && d.Num > 0 {
		if after, err := ratio.Cmp(x, y); after != n || err != api.OK {
			t.Errorf("Cmp(%v, %v) is %d, and %d %v after multiplying by %v", a, b, n, after, err, d)
		}
	}
}

func TestLogsDifferByOne(t *testing.T) {
	for n := 1; n <= api.MaxInt; n += 1 + n/7 {
		for _, near := range []int{n, n &^ (n - 1)} {
			floor, _ := ratio.FloorLog(near)
			ceil, _ := ratio.CeilLog(near)
			power := near&(near-1) == 0
			if power && ceil != floor || !power && ceil != floor+1 || 1<<floor > near || 1<<ceil < near {
				t.Errorf("%d has the logarithms %d and %d", near, floor, ceil)
			}
		}
	}
}
