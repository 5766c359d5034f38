package succinct_test

import (
	"math/bits"
	"slices"
	"strings"
	"testing"

	"heartwood/api"
	"heartwood/succinct"
)

// numbers yields numbers by a fixed rule.
type numbers int

func (n *numbers) below(limit int) int {
	*n = *n * 48271 % 2147483647
	return int(*n) % limit
}

// preorder returns the indices of a list of parents in preorder, and the parentheses.
func preorder(parents []int) ([]int, string) {
	var order []int
	var text strings.Builder
	var visit func(i int)
	visit = func(i int) {
		order = append(order, i)
		text.WriteByte('(')
		for k, p := range parents {
			if p == i {
				visit(k)
			}
		}
		text.WriteByte(')')
	}
	visit(0)
	return order, text.String()
}

// oracle tells of a tree, by the numbers of its nodes.
type oracle struct {
	parents []int // of the nodes by their numbers
	text    string
}

func newOracle(list []int) oracle {
	order, text := preorder(list)
	o := oracle{text: text}
	for _, i := range order {
		o.parents = append(o.parents, slices.Index(order, list[i]))
	}
	return o
}

func (o oracle) ancestors(v int) []int {
	var l []int
	for ; v >= 0; v = o.parents[v] {
		l = append(l, v)
	}
	return l
}

func (o oracle) size(v int) int {
	n := 0
	for w := range o.parents {
		if slices.Contains(o.ancestors(w), v) {
			n++
		}
	}
	return n
}

func (o oracle) common(v, w int) int {
	for _, x := range o.ancestors(v) {
		if slices.Contains(o.ancestors(w), x) {
			return x
		}
	}
	return -1
}

func checkNode(t *testing.T, x *succinct.Tree, o oracle, v int) {
	t.Helper()
	if p, err := x.Parent(v); p != o.parents[v] || err != api.OK {
		t.Fatal("Parent", o.text, v, p, err)
	}
	if d, err := x.Depth(v); d != len(o.ancestors(v))-1 || err != api.OK {
		t.Fatal("Depth", o.text, v, d, err)
	}
	if n, err := x.Size(v); n != o.size(v) || err != api.OK {
		t.Fatal("Size", o.text, v, n, err)
	}
	k := 0
	for w, p := range o.parents {
		if p == v {
			if c, err := x.Child(v, k); c != w || err != api.OK {
				t.Fatal("Child", o.text, v, k, c, err)
			}
			k++
		}
	}
	for _, k := range []int{k, k + 1, -1, 1<<63 - 1, -1 << 63} {
		if c, err := x.Child(v, k); c != 0 || err != api.ErrNone {
			t.Fatal("Child", o.text, v, k, c, err)
		}
	}
}

func checkTree(t *testing.T, x *succinct.Tree, o oracle) {
	t.Helper()
	n := len(o.parents)
	if x.Len() != n || x.Text() != o.text || x.Space() != 2*n {
		t.Fatal(x.Len(), x.Text(), o.text)
	}
	for v := range n {
		checkNode(t, x, o, v)
		for w := 0; w < n; w += 1 + n/30 {
			if c, err := x.Common(v, w); c != o.common(v, w) || err != api.OK {
				t.Fatal("Common", o.text, v, w, c, err)
			}
		}
	}
	var open []int
	for i := range len(o.text) {
		if o.text[i] == '(' {
			open = append(open, i)
			continue
		}
		if c, err := x.Close(open[len(open)-1]); c != i || err != api.OK {
			t.Fatal("Close", o.text, i, c, err)
		}
		open = open[:len(open)-1]
		if c, err := x.Close(i); c != 0 || err != api.ErrForm {
			t.Fatal("Close", o.text, i, c, err)
		}
	}
	for _, i := range []int{-1, n, 2 * n, 1<<63 - 1, -1 << 63} {
		checkWrong(t, x, i, i != n)
	}
}

// checkWrong asks about a number that is no node, and also no index, if it is said so.
func checkWrong(t *testing.T, x *succinct.Tree, v int, noIndex bool) {
	t.Helper()
	for _, f := range []func(int) (int, api.Errno){x.Parent, x.Depth, x.Size, func(v int) (int, api.Errno) { return x.Common(v, 0) }, func(v int) (int, api.Errno) { return x.Common(0, v) }, func(v int) (int, api.Errno) { return x.Child(v, 0) }, func(v int) (int, api.Errno) { return x.Child(v, -1) }} {
		if n, err := f(v); n != 0 || err != api.ErrRange {
			t.Fatal(v, n, err)
		}
	}
	if n, err := x.Close(v); noIndex && (n != 0 || err != api.ErrRange) {
		t.Fatal(v, n, err)
	}
}

// P48.1 to P48.3, and P48.6: trees of many shapes.
func TestTrees(t *testing.T) {
	for size := 1; size < 60; size++ {
		for _, near := range []int{1, 2, 5, 100} {
			n := numbers(size * near)
			parents := []int{-1}
			for i := 1; i < size; i++ {
				parents = append(parents, max(0, i-1-n.below(near)))
			}
			before := slices.Clone(parents)
			x, err := succinct.MakeTree(parents)
			if err != api.OK || !slices.Equal(parents, before) {
				t.Fatal(parents, err)
			}
			o := newOracle(parents)
			clear(parents)
			checkTree(t, x, o)
			y, err := succinct.ParseTree(o.text)
			if err != api.OK {
				t.Fatal(o.text, err)
			}
			checkTree(t, y, o)
		}
	}
}

// All short texts.
func TestParse(t *testing.T) {
	var visit func(s string)
	visit = func(s string) {
		x, err := succinct.ParseTree(s)
		excess, ok := 0, len(s) > 0
		for i := range len(s) {
			if s[i] == '(' {
				excess++
			} else {
				excess--
			}
			ok = ok && s[i] != 'x' && (excess > 0) == (i+1 < len(s)) && excess >= 0
		}
		if ok && (err != api.OK || x.Text() != s) || !ok && (x != nil || err != api.ErrForm) {
			t.Fatal(s, err, ok)
		}
		if len(s) < 8 {
			visit(s + "(")
			visit(s + ")")
			visit(s + "x")
		}
	}
	visit("")
	deep := strings.Repeat("(", api.MaxList) + strings.Repeat(")", api.MaxList)
	if x, err := succinct.ParseTree(deep); err != api.OK || x.Len() != api.MaxList {
		t.Error(err)
	}
	for _, s := range []string{deep + ")", "(" + deep + ")", strings.Repeat("x", 2*api.MaxList+1)} {
		if x, err := succinct.ParseTree(s); x != nil || err != api.ErrFull {
			t.Error(err)
		}
	}
}

// The greatest trees: the deepest, the widest, and others.
func TestGreatTrees(t *testing.T) {
	n := numbers(4)
	for _, near := range []int{1, 3, 2000} {
		parents := []int{-1}
		for i := 1; i < api.MaxList; i++ {
			if near == 2000 {
				parents = append(parents, 0)
			} else {
				parents = append(parents, max(0, i-1-n.below(near)))
			}
		}
		x, err := succinct.MakeTree(parents)
		if err != api.OK || x.Len() != api.MaxList {
			t.Fatal(err)
		}
		o := newOracle(parents)
		for v := 0; v < api.MaxList; v += 97 {
			checkNode(t, x, o, v)
			for w := 0; w < api.MaxList; w += 83 {
				if c, err := x.Common(v, w); c != o.common(v, w) || err != api.OK {
					t.Fatal(v, w, c, err)
				}
			}
		}
		if x, err := succinct.MakeTree(append(parents, 0)); x != nil || err != api.ErrFull {
			t.Error(err)
		}
		if x, err := succinct.MakeTree(append(parents, -1)); x != nil || err != api.ErrArg {
			t.Error(err)
		}
	}
	for _, parents := range [][]int{nil, {}, {0}, {-2}, {-1, -1}, {-1, 1}, {-1, 0, 2}, {-1, 0, 3}, {-1, 1 << 62}, {-1, 0, -1 << 63}} {
		if x, err := succinct.MakeTree(parents); x != nil || err != api.ErrArg {
			t.Error(parents, err)
		}
	}
}

func TestExample(t *testing.T) {
	x, err := succinct.MakeTree([]int{-1, 0, 1, 0})
	if err != api.OK || x.Text() != "((())())" {
		t.Fatal(x.Text(), err)
	}
	size, _ := x.Size(1)
	depth, _ := x.Depth(2)
	common, _ := x.Common(2, 3)
	end, _ := x.Close(1)
	if size != 2 || depth != 2 || common != 0 || end != 4 {
		t.Error(size, depth, common, end)
	}
	m, err := succinct.MakeMonotone([]int{2, 3, 5, 7, 11, 13, 24})
	if err != api.OK || m.Space() != 27 {
		t.Fatal(err, m.Space())
	}
	if i, n, err := m.Next(6); i != 3 || n != 7 || err != api.OK {
		t.Error(i, n, err)
	}
}

func checkList(t *testing.T, l []int) {
	t.Helper()
	before := slices.Clone(l)
	m, err := succinct.MakeMonotone(l)
	if err != api.OK || m.Len() != len(l) || !slices.Equal(l, before) {
		t.Fatal(l, err)
	}
	clear(l)
	l = before
	space := 0
	if n := len(l); n > 0 {
		u, low := l[n-1], 0
		if u >= n {
			low = bits.Len(uint(u/n)) - 1
		}
		space = n*low + n + 1 + u>>low
	}
	if m.Space() != space {
		t.Fatal(l, m.Space(), space)
	}
	asked := []int{-1, 0, 1, api.MaxInt, api.MaxInt + 1, 1<<63 - 1, -1 << 63}
	for i, n := range l {
		if got, err := m.Get(i); got != n || err != api.OK {
			t.Fatal(l, i, got, err)
		}
		asked = append(asked, n-1, n, n+1)
	}
	for _, i := range []int{-1, len(l), 1<<63 - 1, -1 << 63} {
		if n, err := m.Get(i); n != 0 || err != api.ErrRange {
			t.Fatal(i, n, err)
		}
	}
	for _, x := range asked {
		i := slices.IndexFunc(l, func(n int) bool { return n >= x })
		k, n, err := m.Next(x)
		if i < 0 && (k != 0 || n != 0 || err != api.ErrNone) || i >= 0 && (k != i || n != l[i] || err != api.OK) {
			t.Fatal(l, x, k, n, err)
		}
	}
}

// P48.4 to P48.6
func TestLists(t *testing.T) {
	n := numbers(7)
	for _, size := range []int{0, 1, 2, 3, 8, 50, 300} {
		for _, spread := range []int{1, 2, 10, 1000, api.MaxInt + 1} {
			for range 5 {
				var l []int
				for range size {
					l = append(l, n.below(spread)*1021%spread)
				}
				slices.Sort(l)
				checkList(t, l)
			}
		}
	}
	checkList(t, []int{api.MaxInt})
	checkList(t, make([]int, api.MaxList))
	checkList(t, slices.Repeat([]int{api.MaxInt}, api.MaxList))
	var steps []int
	for i := range api.MaxList {
		steps = append(steps, i*(api.MaxInt/api.MaxList))
	}
	checkList(t, steps)
	for i, x := range []struct {
		l    []int
		want api.Errno
	}{{[]int{-1}, api.ErrArg}, {[]int{api.MaxInt + 1}, api.ErrArg}, {[]int{2, 1}, api.ErrArg}, {[]int{1, 2, 2, 1 << 62}, api.ErrArg}, {make([]int, api.MaxList+1), api.ErrFull}, {append(make([]int, api.MaxList+1), -1), api.ErrArg}} {
		if m, err := succinct.MakeMonotone(x.l); m != nil || err != x.want {
			t.Error(i, err)
		}
	}
}

func TestNil(t *testing.T) {
	var x *succinct.Tree
	if x.Len() != 0 || x.Text() != "" || x.Space() != 0 {
		t.Error("values")
	}
	for _, f := range []func(int) (int, api.Errno){x.Parent, x.Depth, x.Size, x.Close, func(v int) (int, api.Errno) { return x.Common(v, v) }, func(v int) (int, api.Errno) { return x.Child(v, -1) }} {
		if n, err := f(-1); n != 0 || err != api.ErrArg {
			t.Error(n, err)
		}
	}
	x = &succinct.Tree{}
	checkWrong(t, x, 0, true)
	var m *succinct.Monotone
	for range 2 {
		n, err := m.Get(0)
		i, x, err1 := m.Next(0)
		if n != 0 || i != 0 || x != 0 || m == nil && (err != api.ErrArg || err1 != api.ErrArg) || m != nil && (err != api.ErrRange || err1 != api.ErrNone) || m.Len() != 0 || m.Space() != 0 {
			t.Error(n, err, err1)
		}
		m = &succinct.Monotone{}
	}
}
