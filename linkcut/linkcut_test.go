package linkcut_test

import (
	"slices"
	"testing"

	"heartwood/api"
	"heartwood/linkcut"
)

// oracle is a forest as a list of parents.
type oracle struct{ weights, parents []int }

func newOracle(weights []int) *oracle {
	return &oracle{slices.Clone(weights), slices.Repeat([]int{-1}, len(weights))}
}

// up returns v and the vertices above it.
func (o *oracle) up(v int) []int {
	var l []int
	for ; v >= 0; v = o.parents[v] {
		l = append(l, v)
	}
	return l
}

func (o *oracle) root(v int) int {
	l := o.up(v)
	return l[len(l)-1]
}

func (o *oracle) common(v, w int) int {
	l := o.up(w)
	for _, x := range o.up(v) {
		if slices.Contains(l, x) {
			return x
		}
	}
	return -1
}

// path returns the path from v to w, or nothing.
func (o *oracle) path(v, w int) []int {
	c := o.common(v, w)
	if c < 0 {
		return nil
	}
	a, b := o.up(v), o.up(w)
	a, b = a[:slices.Index(a, c)+1], b[:slices.Index(b, c)]
	slices.Reverse(b)
	return append(a, b...)
}

func (o *oracle) evert(v int) {
	l := o.up(v)
	for i := range l {
		if i == 0 {
			o.parents[l[0]] = -1
		} else {
			o.parents[l[i]] = l[i-1]
		}
	}
}

func made(t *testing.T, weights ...int) *linkcut.Forest {
	t.Helper()
	f, err := linkcut.New(weights)
	if err != api.OK || f == nil {
		t.Fatal(err)
	}
	return f
}

// numbers yields numbers by a fixed rule.
type numbers int

func (n *numbers) below(limit int) int {
	*n = *n * 48271 % 2147483647
	return int(*n) % limit
}

// checkAll compares everything that can be asked, for all pairs of vertices.
func checkAll(t *testing.T, f *linkcut.Forest, o *oracle) {
	t.Helper()
	for v := range o.parents {
		if r, err := f.Root(v); r != o.root(v) || err != api.OK {
			t.Fatal("Root", v, r, err, o)
		}
		if p, err := f.Parent(v); p != o.parents[v] || err != api.OK {
			t.Fatal("Parent", v, p, err, o)
		}
		if d, err := f.Depth(v); d != len(o.up(v))-1 || err != api.OK {
			t.Fatal("Depth", v, d, err, o)
		}
		for w := range o.parents {
			checkPair(t, f, o, v, w)
		}
	}
}

func checkPair(t *testing.T, f *linkcut.Forest, o *oracle, v, w int) {
	t.Helper()
	path := o.path(v, w)
	if ok, err := f.Connected(v, w); ok != (path != nil) || err != api.OK {
		t.Fatal("Connected", v, w, ok, err, o)
	}
	common, e1 := f.Common(v, w)
	sum, e2 := f.Sum(v, w)
	least, e3 := f.Least(v, w)
	if path == nil {
		if common != 0 || sum != 0 || least != 0 || e1 != api.ErrNone || e2 != api.ErrNone || e3 != api.ErrNone {
			t.Fatal(v, w, common, sum, least, e1, e2, e3, o)
		}
		return
	}
	wantSum, wantLeast := 0, path[0]
	for _, x := range path {
		wantSum += o.weights[x]
		if o.weights[x] < o.weights[wantLeast] {
			wantLeast = x
		}
	}
	if common != o.common(v, w) || sum != wantSum || least != wantLeast || e1 != api.OK || e2 != api.OK || e3 != api.OK {
		t.Fatal(v, w, common, sum, least, e1, e2, e3, o)
	}
}

// change does a random operation with both forests, and compares the errors.
func change(t *testing.T, n *numbers, f *linkcut.Forest, o *oracle) {
	t.Helper()
	v, w := n.below(len(o.parents)), n.below(len(o.parents))
	var got, want api.Errno
	switch n.below(8) {
	case 0, 1, 2, 3:
		got = f.Link(v, w)
		switch {
		case o.parents[v] >= 0:
			want = api.ErrState
		case o.root(w) == v:
			want = api.ErrCycle
		default:
			o.parents[v] = w
		}
	case 4:
		got = f.Cut(v)
		if o.parents[v] < 0 {
			want = api.ErrState
		}
		o.parents[v] = -1
	case 5:
		got = f.Evert(v)
		o.evert(v)
	case 6:
		weight := n.below(5) - 2
		got = f.Set(v, weight)
		o.weights[v] = weight
	case 7:
		if n.below(2) == 0 {
			checkPair(t, f, o, v, w)
		}
	}
	if got != want {
		t.Fatal(v, w, got, want, o)
	}
}

// P24.2 to P24.6, against the lists of parents.
func TestForests(t *testing.T) {
	for size := 1; size <= 12; size++ {
		n := numbers(size * 7)
		weights := make([]int, size)
		for i := range weights {
			weights[i] = n.below(4)
		}
		f, o := made(t, weights...), newOracle(weights)
		steps := f.Steps()
		for i := range 300 {
			change(t, &n, f, o)
			if i%5 == 0 {
				checkAll(t, f, o)
			}
			if s := f.Steps(); s < steps {
				t.Fatal("fewer steps", s, steps)
			} else {
				steps = s
			}
		}
	}
}

func TestExample(t *testing.T) {
	f := made(t, 5, 1, 4)
	if f.Link(1, 0) != api.OK || f.Link(2, 0) != api.OK {
		t.Fatal("Link")
	}
	want := func(n int, err api.Errno, want int) {
		t.Helper()
		if n != want || err != api.OK {
			t.Error(n, err, want)
		}
	}
	both := func(n int, err api.Errno) func(int) { return func(w int) { t.Helper(); want(n, err, w) } }
	both(f.Sum(1, 2))(10)
	both(f.Least(1, 2))(1)
	both(f.Common(1, 2))(0)
	if f.Evert(2) != api.OK {
		t.Error("Evert")
	}
	both(f.Root(1))(2)
	both(f.Depth(1))(2)
	both(f.Common(1, 0))(0)
}

// P24.4: of several least weights the first one from v on counts, also after the path has been turned around.
func TestFirstLeast(t *testing.T) {
	f := made(t, 3, 3, 3, 3, 3, 3)
	for v := 1; v < 6; v++ {
		f.Link(v, v-1)
	}
	for range 2 {
		for v := range 6 {
			for w := range 6 {
				if x, err := f.Least(v, w); x != v || err != api.OK {
					t.Error(v, w, x, err)
				}
			}
		}
		f.Evert(3)
	}
	f.Set(1, 2)
	f.Set(4, 2)
	for _, c := range [][3]int{{0, 5, 1}, {5, 0, 4}, {2, 5, 4}, {3, 0, 1}, {4, 1, 4}, {1, 4, 1}, {2, 3, 2}} {
		if x, err := f.Least(c[0], c[1]); x != c[2] || err != api.OK {
			t.Error(c, x, err)
		}
	}
}

func TestLongPaths(t *testing.T) {
	weights := make([]int, api.MaxList)
	for i := range weights {
		weights[i] = api.MaxKey - i%3
	}
	f, o := made(t, weights...), newOracle(weights)
	for v := 1; v < api.MaxList; v++ {
		if err := f.Link(v, v-1); err != api.OK {
			t.Fatal(err)
		}
		o.parents[v] = v - 1
	}
	n := numbers(5)
	for range 60 {
		checkPair(t, f, o, n.below(api.MaxList), n.below(api.MaxList))
		v := n.below(api.MaxList)
		f.Evert(v)
		o.evert(v)
		w := n.below(api.MaxList)
		if d, err := f.Depth(w); d != len(o.up(w))-1 || err != api.OK {
			t.Fatal(d, err)
		}
	}
	if f.Len() != api.MaxList {
		t.Error(f.Len())
	}
}

// P24.1

func TestNew(t *testing.T) {
	if f := made(t); f.Len() != 0 || f.Steps() != 0 {
		t.Error(f.Len())
	}
	l := []int{api.MaxKey, -api.MaxKey, 0}
	f := made(t, l...)
	clear(l)
	for v, want := range []int{api.MaxKey, -api.MaxKey, 0} {
		if n, err := f.Sum(v, v); n != want || err != api.OK {
			t.Error(v, n, err)
		}
	}
	if f.Len() != 3 {
		t.Error(f.Len())
	}
	bad := func(l []int, want api.Errno) {
		t.Helper()
		if f, err := linkcut.New(l); f != nil || err != want {
			t.Error(err)
		}
	}
	bad([]int{0, api.MaxKey + 1}, api.ErrArg)
	bad([]int{-api.MaxKey - 1}, api.ErrArg)
	bad(make([]int, api.MaxList+1), api.ErrFull)
	bad(append(make([]int, api.MaxList+1), 1<<60), api.ErrArg)
	if f := made(t, make([]int, api.MaxList)...); f.Len() != api.MaxList {
		t.Error(f.Len())
	}
}

// calls are all methods with vertices; weight is that of Set.
func calls(f *linkcut.Forest, v, w, weight int) []api.Errno {
	var l []api.Errno
	one := func(n int, err api.Errno) {
		if n != 0 {
			err = -1
		}
		l = append(l, err)
	}
	one(f.Root(v))
	one(f.Parent(v))
	one(f.Depth(v))
	one(f.Common(v, w))
	one(f.Sum(v, w))
	one(f.Least(v, w))
	ok, err := f.Connected(v, w)
	if ok {
		err = -1
	}
	return append(l, err, f.Link(v, w), f.Cut(v), f.Evert(v), f.Set(v, weight))
}

func TestErrors(t *testing.T) {
	f := made(t, 1, 2, 3)
	f.Link(1, 0)
	for _, v := range []int{-1, 3, 1 << 60, -1 << 63} {
		for _, err := range calls(f, v, 0, 1) {
			if err != api.ErrRange {
				t.Error(v, err)
			}
		}
		for _, err := range []api.Errno{f.Link(1, v), f.Link(0, v)} {
			if err != api.ErrRange {
				t.Error(v, err)
			}
		}
		for i, g := range []func(v, w int) (int, api.Errno){f.Common, f.Sum, f.Least} {
			if n, err := g(0, v); n != 0 || err != api.ErrRange {
				t.Error(i, v, n, err)
			}
		}
		if ok, err := f.Connected(0, v); ok || err != api.ErrRange {
			t.Error(ok, err)
		}
	}
	for _, weight := range []int{api.MaxKey + 1, -api.MaxKey - 1, 1 << 62} {
		for _, v := range []int{0, -1, 3} {
			if err := f.Set(v, weight); err != api.ErrArg {
				t.Error(v, weight, err)
			}
		}
	}
	if f.Link(1, 2) != api.ErrState || f.Link(1, 1) != api.ErrState || f.Link(1, 0) != api.ErrState || f.Link(0, 1) != api.ErrCycle || f.Link(0, 0) != api.ErrCycle || f.Cut(0) != api.ErrState || f.Cut(2) != api.ErrState {
		t.Error("errors")
	}
	// Nothing has changed.
	o := newOracle([]int{1, 2, 3})
	o.parents[1] = 0
	checkAll(t, f, o)
}

func TestNil(t *testing.T) {
	var f *linkcut.Forest
	if f.Len() != 0 || f.Steps() != 0 {
		t.Error("values")
	}
	for _, v := range []int{-1, 0} {
		for i, err := range calls(f, v, v, 1<<60) {
			if err != api.ErrArg {
				t.Error(i, err)
			}
		}
	}
	for i, err := range calls(&linkcut.Forest{}, 0, 0, 1) {
		if err != api.ErrRange {
			t.Error(i, err)
		}
	}
}

// P24.6: cutting undoes linking, and sums do not depend on the direction, nor on the root.
func TestLaws(t *testing.T) {
	n := numbers(99)
	weights := []int{4, -1, 7, 0, 3, 3, 9, -2}
	f, o := made(t, weights...), newOracle(weights)
	for range 400 {
		change(t, &n, f, o)
		v, w := n.below(8), n.below(8)
		if o.parents[v] < 0 && o.root(w) != v {
			if f.Link(v, w) != api.OK || f.Cut(v) != api.OK {
				t.Fatal("link and cut")
			}
		}
		a, err1 := f.Sum(v, w)
		f.Evert(v)
		b, err2 := f.Sum(w, v)
		o.evert(v)
		if a != b || err1 != err2 {
			t.Fatal(v, w, a, b)
		}
		if err1 == api.OK {
			c, _ := f.Common(v, w)
			x, _ := f.Depth(v)
			y, _ := f.Depth(w)
			z, _ := f.Depth(c)
			if x+y-2*z+1 != len(o.path(v, w)) {
				t.Fatal(v, w, x, y, z)
			}
		}
		checkAll(t, f, o)
	}
}
