package measures_test

import (
	"testing"

	"heartwood/api"
	"heartwood/measures"
	"heartwood/parser"
)

func reader(t *testing.T) (*measures.Reader, api.Desc) {
	t.Helper()
	d, place, err := parser.Parse("desc d { type T { k int; n T } var r T var c int proc p(c int, x bool) { } measure sum(T) nil 0 = this.k + c + sum(this.n) measure div(T) nil 1 = c / this.k bound p = if(x, c + sum(r), div(r)) }")
	if err != api.OK {
		t.Fatal(place, err)
	}
	return measures.New(d, api.Mem{Globals: []int{1, 100}, Nodes: []api.Node{{F: []int{5, 2}}, {F: []int{0, 0}}, {F: []int{7, 3}}}}), d
}

func TestBound(t *testing.T) {
	r, d := reader(t)
	// The parameter hides the global variable in the bound, but not in a measure that it calls.
	for range 2 {
		if n, err := r.Bound(d.Bounds[0].X, map[string]int{"c": 3, "x": 1}); n != 208 || err != api.OK {
			t.Error(n, err)
		}
		if n, err := r.Bound(d.Bounds[0].X, map[string]int{"c": 3, "x": 0}); n != 20 || err != api.OK {
			t.Error(n, err)
		}
		if n, err := r.Value(api.Expr{Op: api.XName, S: "c"}, 0); n != 100 || err != api.OK {
			t.Error(n, err)
		}
	}
}

// A reader goes on after a fault, and what has a fault has it again.
func TestFaults(t *testing.T) {
	r, _ := reader(t)
	for range 3 {
		if n, err := r.Measure("sum", 3); n != 0 || err != api.ErrCycle {
			t.Error(n, err)
		}
		if n, err := r.Measure("div", 2); n != 0 || err != api.ErrZero {
			t.Error(n, err)
		}
		if n, err := r.Measure("sum", 1); n != 205 || err != api.OK {
			t.Error(n, err)
		}
		if n, err := r.Measure("div", 0); n != 1 || err != api.OK {
			t.Error(n, err)
		}
	}
}
