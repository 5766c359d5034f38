package rangetree_test

import (
	"cmp"
	"math"
	"math/bits"
	"slices"
	"testing"

	"heartwood/api"
	"heartwood/model"
	"heartwood/rangetree"
)

// numbers yields numbers by a fixed rule.
type numbers int

func (n *numbers) below(limit int) int {
	*n = *n * 48271 % 2147483647
	return int(*n) % limit
}

func byOrder(a, b api.Point) int { return cmp.Or(cmp.Compare(a.X, b.X), cmp.Compare(a.Y, b.Y)) }

// tester has a tree, its points as a list, and what the bound on its effort depends on.
type tester struct {
	t          *testing.T
	tree       *rangetree.Tree
	l          []api.Point
	made, done int
}

func newTester(t *testing.T, l ...api.Point) *tester {
	t.Helper()
	tree, err := rangetree.Make(l)
	if err != api.OK || tree == nil {
		t.Fatal(err)
	}
	s := &tester{t: t, tree: tree, l: slices.Clone(l), made: len(l)}
	slices.SortFunc(s.l, byOrder)
	s.checkState()
	return s
}

func (s *tester) find(x, y int) (int, bool) {
	return slices.BinarySearchFunc(s.l, api.Point{X: x, Y: y}, byOrder)
}

func (s *tester) add(p api.Point) {
	s.t.Helper()
	i, found := s.find(p.X, p.Y)
	want := api.OK
	switch {
	case found:
		want = api.ErrExists
	case len(s.l) == api.MaxList:
		want = api.ErrFull
	default:
		s.l = slices.Insert(s.l, i, p)
		s.done++
	}
	if err := s.tree.Add(p); err != want {
		s.t.Fatal("Add", p, err, want)
	}
}

func (s *tester) remove(x, y int) {
	s.t.Helper()
	i, found := s.find(x, y)
	want := api.ErrNone
	if found {
		want = api.OK
		s.l = slices.Delete(s.l, i, i+1)
		s.done++
	}
	if err := s.tree.Remove(x, y); err != want {
		s.t.Fatal("Remove", x, y, err, want)
	}
}

// checkState checks the list, and the bound of P31.4.
func (s *tester) checkState() {
	s.t.Helper()
	if s.tree.Len() != len(s.l) || !slices.Equal(s.tree.List(), s.l) {
		s.t.Fatal(s.tree.List(), s.l)
	}
	log := 0
	if n := s.made + s.done; n > 0 {
		log = bits.Len(uint(n)) - 1
	}
	if n := s.tree.Built(); n < len(s.l) || n > s.made+12*s.done*(log+1) {
		s.t.Fatal("Built", n, s.made, s.done)
	}
}

// ask compares the answers for a rectangle.
func (s *tester) ask(x1, x2, y1, y2 int) {
	s.t.Helper()
	var want []api.Point
	var first *api.Point
	sum := 0
	for i, p := range s.l {
		if p.X < x1 || p.Y < y1 || p.Y > y2 {
			continue
		}
		if first == nil {
			first = &s.l[i]
		}
		if p.X <= x2 {
			want = append(want, p)
			sum += p.W
		}
	}
	if n, err := s.tree.Count(x1, x2, y1, y2); n != len(want) || err != api.OK {
		s.t.Fatal("Count", x1, x2, y1, y2, n, err, len(want))
	}
	if n, err := s.tree.Sum(x1, x2, y1, y2); n != sum || err != api.OK {
		s.t.Fatal("Sum", x1, x2, y1, y2, n, err, sum)
	}
	if l, err := s.tree.Report(x1, x2, y1, y2); !slices.Equal(l, want) || err != api.OK {
		s.t.Fatal("Report", x1, x2, y1, y2, l, err, want)
	}
	p, err := s.tree.Leftmost(x1, y1, y2)
	if first == nil && (p != api.Point{} || err != api.ErrNone) || first != nil && (p != *first || err != api.OK) {
		s.t.Fatal("Leftmost", x1, y1, y2, p, err)
	}
}

// askMany compares the answers for random rectangles, empty ones among them, and for extreme ones.
func (s *tester) askMany(n *numbers, spread, count int) {
	s.t.Helper()
	for range count {
		l := [4]int{}
		for i := range l {
			l[i] = n.below(spread+4) - 2
		}
		if n.below(4) > 0 {
			l[0], l[1], l[2], l[3] = min(l[0], l[1]), max(l[0], l[1]), min(l[2], l[3]), max(l[2], l[3])
		}
		s.ask(l[0], l[1], l[2], l[3])
	}
	s.ask(math.MinInt, math.MaxInt, math.MinInt, math.MaxInt)
	s.ask(math.MaxInt, math.MinInt, math.MaxInt, math.MinInt)
	s.ask(0, math.MaxInt, math.MinInt, spread/2)
	s.ask(math.MinInt, spread/2, 0, math.MaxInt)
}

// P31.1 to P31.4: random operations, with few and many places, against a list.
func TestTrees(t *testing.T) {
	for _, spread := range []int{1, 2, 3, 6, 15, 60, 1000} {
		for _, first := range []int{0, 1, 7, 30} {
			n := numbers(spread + first)
			var l []api.Point
			for range first {
				p := api.Point{X: n.below(spread), Y: n.below(spread), W: n.below(20) - 10}
				if !slices.ContainsFunc(l, func(q api.Point) bool { return byOrder(p, q) == 0 }) {
					l = append(l, p)
				}
			}
			s := newTester(t, l...)
			s.askMany(&n, spread, 5)
			for round := range 400 {
				grow := round%200 < 130
				if n.below(5) > 0 == grow {
					s.add(api.Point{X: n.below(spread), Y: n.below(spread), W: n.below(20) - 10})
				} else if len(s.l) > 0 && n.below(5) > 0 {
					p := s.l[n.below(len(s.l))]
					s.remove(p.X, p.Y)
				} else {
					s.remove(n.below(spread+1), n.below(spread+1)-1)
				}
				s.checkState()
				s.askMany(&n, spread, 3)
			}
		}
	}
}

func TestExample(t *testing.T) {
	s := newTester(t, api.Point{X: 3, Y: 7, W: -1}, api.Point{X: 1, Y: 5, W: 2}, api.Point{X: 3, Y: 1, W: 4})
	if n, err := s.tree.Count(1, 3, 1, 5); n != 2 || err != api.OK {
		t.Error(n, err)
	}
	if n, err := s.tree.Sum(0, 9, 0, 9); n != 5 || err != api.OK {
		t.Error(n, err)
	}
	if p, err := s.tree.Leftmost(2, 0, 9); p != (api.Point{X: 3, Y: 1, W: 4}) || err != api.OK {
		t.Error(p, err)
	}
	if p, err := s.tree.Leftmost(2, 2, 9); p != (api.Point{X: 3, Y: 7, W: -1}) || err != api.OK {
		t.Error(p, err)
	}
}

// P31.4: the effort stays low for updates that are unfavourable: growing, shrinking, and going to and fro at each size.
func TestEffort(t *testing.T) {
	at := func(i int) api.Point { return api.Point{X: i % 37, Y: i, W: 1} }
	s := newTester(t)
	for i := range api.MaxList {
		s.add(at(i))
		s.checkState()
	}
	s.add(at(api.MaxList))
	for i := range api.MaxList {
		p := at(i * 7 % api.MaxList)
		s.remove(p.X, p.Y)
		s.checkState()
		if i%100 == 0 {
			s.ask(3, 20, 100, 900)
		}
	}
	for size := range 70 {
		var l []api.Point
		for i := range size {
			l = append(l, at(i))
		}
		s := newTester(t, l...)
		if s.tree.Built() != size {
			t.Fatal(size, s.tree.Built())
		}
		for range 3 * size {
			s.add(at(size))
			s.checkState()
			s.remove(at(size).X, at(size).Y)
			s.checkState()
		}
		for i := range size {
			s.remove(at(i).X, at(i).Y)
			s.add(at(i))
			s.checkState()
		}
	}
}

func TestMakeErrors(t *testing.T) {
	bad := func(want api.Errno, l ...api.Point) {
		t.Helper()
		if tree, err := rangetree.Make(l); tree != nil || err != want {
			t.Error(len(l), err, want)
		}
	}
	for _, p := range []api.Point{{X: api.MaxKey + 1}, {X: -api.MaxKey - 1}, {Y: api.MaxKey + 1}, {Y: -api.MaxKey - 1}, {W: api.MaxKey + 1}, {W: -api.MaxKey - 1}} {
		bad(api.ErrArg, p)
		bad(api.ErrArg, api.Point{}, api.Point{}, p)
		s := newTester(t, api.Point{})
		if err := s.tree.Add(p); err != api.ErrArg {
			t.Error(p, err)
		}
		s.checkState()
		if err := s.tree.Remove(p.X, p.Y); p.W == 0 && err != api.ErrNone {
			t.Error(p, err)
		}
	}
	bad(api.ErrTwice, api.Point{X: 1, Y: 2, W: 3}, api.Point{X: 1, Y: 3}, api.Point{X: 1, Y: 2, W: 4})
	var full []api.Point
	for i := range api.MaxList {
		full = append(full, api.Point{X: -i, Y: api.MaxKey - i%2, W: api.MaxKey})
	}
	s := newTester(t, full...)
	n := numbers(3)
	s.askMany(&n, 400, 20)
	s.ask(-api.MaxList, 0, api.MaxKey, api.MaxKey)
	s.add(api.Point{X: 1})
	s.add(full[0])
	s.remove(0, 0)
	s.remove(0, api.MaxKey)
	s.add(api.Point{X: -api.MaxKey, Y: -api.MaxKey, W: -api.MaxKey})
	s.checkState()
	over := append(full, api.Point{X: 1})
	bad(api.ErrFull, over...)
	bad(api.ErrTwice, append(over, over[0])...)
	bad(api.ErrArg, append(over, over[0], api.Point{X: 1 << 40})...)
}

// P31.5: neighbouring rectangles add up; the order of points does not matter; what is added and removed leaves no trace;
// a set of points of layer 3 answers the same.
func TestLaws(t *testing.T) {
	n := numbers(9)
	s := newTester(t)
	for range 120 {
		s.add(api.Point{X: n.below(12), Y: n.below(12), W: n.below(9) - 4})
	}
	for range 30 {
		s.remove(n.below(12), n.below(12))
	}
	l := s.tree.List()
	slices.Reverse(l)
	other := newTester(t, l...)
	state, _ := model.New(api.Range)
	for _, p := range l {
		state, _, _ = model.Apply(state, api.Op{Code: api.RangeAdd, Args: []int{p.X, p.Y, p.W}})
	}
	extra := api.Point{X: 20, Y: 5, W: 7}
	for range 50 {
		other.add(extra)
		other.remove(extra.X, extra.Y)
	}
	for range 500 {
		x1, x2, y1, y2 := n.below(12), n.below(12), n.below(12), n.below(12)
		_, count, _ := model.Apply(state, api.Op{Code: api.RangeCount, Args: []int{x1, x2, y1, y2}})
		_, sum, _ := model.Apply(state, api.Op{Code: api.RangeSum, Args: []int{x1, x2, y1, y2}})
		a, _ := s.tree.Count(x1, x2, y1, y2)
		b, _ := other.tree.Count(x1, x2, y1, y2)
		c, _ := s.tree.Sum(x1, x2, y1, y2)
		if a != count.N || b != count.N || c != sum.N {
			t.Fatal(x1, x2, y1, y2, a, b, count.N, c, sum.N)
		}
		if middle := (x1 + x2) / 2; x1 <= x2 {
			left, _ := s.tree.Sum(x1, middle, y1, y2)
			right, _ := s.tree.Sum(middle+1, x2, y1, y2)
			if left+right != c {
				t.Fatal(x1, middle, x2, left, right, c)
			}
		}
		report, _ := s.tree.Report(x1, api.MaxKey, y1, y2)
		first, err := s.tree.Leftmost(x1, y1, y2)
		if len(report) == 0 && err != api.ErrNone || len(report) > 0 && first != report[0] {
			t.Fatal(report, first, err)
		}
	}
}

func TestSharing(t *testing.T) {
	l := []api.Point{{X: 2, Y: 1, W: 1}, {X: 1, Y: 1, W: 1}}
	s := newTester(t, l...)
	if l[0].X != 2 {
		t.Error("an argument was changed")
	}
	clear(l)
	clear(s.tree.List())
	r, _ := s.tree.Report(0, 9, 0, 9)
	clear(r)
	s.checkState()
	s.ask(0, 9, 0, 9)
}

func TestNil(t *testing.T) {
	var tree *rangetree.Tree
	if tree.Len() != 0 || tree.Built() != 0 || len(tree.List()) != 0 {
		t.Error("values")
	}
	if tree.Add(api.Point{}) != api.ErrArg || tree.Add(api.Point{X: 1 << 50}) != api.ErrArg || tree.Remove(0, 0) != api.ErrArg {
		t.Error("changes")
	}
	for _, f := range []func(x1, x2, y1, y2 int) (int, api.Errno){tree.Count, tree.Sum} {
		if n, err := f(0, 1, 0, 1); n != 0 || err != api.ErrArg {
			t.Error(n, err)
		}
	}
	if l, err := tree.Report(0, 1, 0, 1); len(l) != 0 || err != api.ErrArg {
		t.Error(l, err)
	}
	if p, err := tree.Leftmost(0, 0, 1); p != (api.Point{}) || err != api.ErrArg {
		t.Error(p, err)
	}
	s := &tester{t: t, tree: &rangetree.Tree{}}
	s.ask(0, 1, 0, 1)
	s.add(api.Point{X: 1})
	s.remove(1, 0)
	s.remove(1, 0)
	s.checkState()
}
