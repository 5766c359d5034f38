package versiontree_test

import (
	"slices"
	"testing"

	"heartwood/api"
	"heartwood/versiontree"
)

// numbers yields numbers by a fixed rule.
type numbers int

func (n *numbers) below(limit int) int {
	*n = *n * 48271 % 2147483647
	return int(*n) % limit
}

func tree(parents ...int) api.Versions { return api.Versions{Parent: parents} }

// shapes returns trees of many shapes.
func shapes() []api.Versions {
	n := numbers(5)
	all := []api.Versions{tree(-1), tree(-1, 0), tree(-1, 0, 0, 1, 1), tree(-1, 0, 1, 2, 3), tree(-1, 0, 0, 0, 0)}
	for _, size := range []int{6, 13, 40, 77} {
		for _, near := range []int{1, 2, 5, 100} {
			parents := []int{-1}
			for i := 1; i < size; i++ {
				parents = append(parents, max(0, i-1-n.below(near)))
			}
			all = append(all, tree(parents...))
		}
	}
	return all
}

// ancestors returns the ancestors of a version, itself first.
func ancestors(v api.Versions, n int) []int {
	var l []int
	for ; n >= 0; n = v.Parent[n] {
		l = append(l, n)
	}
	return l
}

func common(v api.Versions, a, b int) int {
	for _, x := range ancestors(v, a) {
		if slices.Contains(ancestors(v, b), x) {
			return x
		}
	}
	return -1
}

// euler makes the tour by its definition.
func euler(v api.Versions, n int) []int {
	l := []int{n}
	for i, parent := range v.Parent {
		if parent == n {
			l = append(l, euler(v, i)...)
		}
	}
	return append(l, n)
}

// P32.1
func TestTrees(t *testing.T) {
	for _, v := range shapes() {
		if !versiontree.Valid(v) {
			t.Fatal(v)
		}
		if tour, err := versiontree.Euler(v); err != api.OK || !slices.Equal(tour, euler(v, 0)) {
			t.Fatal(v, tour, err)
		}
		for n := range v.Parent {
			want := ancestors(v, n)
			slices.Reverse(want)
			if path, err := versiontree.Path(v, n); err != api.OK || !slices.Equal(path, want) {
				t.Fatal(v, n, path, err)
			}
			want = nil
			for i, parent := range v.Parent {
				if parent == n {
					want = append(want, i)
				}
			}
			if l, err := versiontree.Children(v, n); err != api.OK || !slices.Equal(l, want) {
				t.Fatal(v, n, l, err)
			}
		}
		for _, n := range []int{-1, len(v.Parent), -1 << 63, 1<<63 - 1} {
			if l, err := versiontree.Path(v, n); err != api.ErrVersion || len(l) != 0 {
				t.Error(v, n, l, err)
			}
			if l, err := versiontree.Children(v, n); err != api.ErrVersion || len(l) != 0 {
				t.Error(v, n, l, err)
			}
		}
	}
}

// chain returns the tree in which each version is the child of the one before it.
func chain(size int) api.Versions {
	v := tree()
	for i := range size {
		v.Parent = append(v.Parent, i-1)
	}
	return v
}

func TestInvalidTrees(t *testing.T) {
	bad := []api.Versions{tree(), {Parent: []int{}}, tree(0), tree(1), tree(-2), tree(-1, -1), tree(-1, 1), tree(-1, 0, 2), tree(-1, 0, 0, -1), tree(-1, 1<<63-1), tree(-1, -1<<63), chain(api.MaxVersions + 1)}
	for _, v := range bad {
		if versiontree.Valid(v) {
			t.Error(v)
		}
		if l, err := versiontree.Euler(v); err != api.ErrArg || len(l) != 0 {
			t.Error(v, l, err)
		}
		for _, n := range []int{0, -1, 5} {
			if l, err := versiontree.Path(v, n); err != api.ErrArg || len(l) != 0 {
				t.Error(v, l, err)
			}
			if l, err := versiontree.Children(v, n); err != api.ErrArg || len(l) != 0 {
				t.Error(v, l, err)
			}
		}
	}
	long := chain(api.MaxVersions)
	tour, err := versiontree.Euler(long)
	if err != api.OK || len(tour) != 2*api.MaxVersions || tour[api.MaxVersions-1] != api.MaxVersions-1 || tour[api.MaxVersions] != api.MaxVersions-1 {
		t.Error(len(tour), err)
	}
	if path, err := versiontree.Path(long, api.MaxVersions-1); err != api.OK || len(path) != api.MaxVersions {
		t.Error(len(path), err)
	}
}

// indexOf makes an index by branches.
func indexOf(t *testing.T, v api.Versions) *versiontree.Index {
	t.Helper()
	x := versiontree.New()
	for i, parent := range v.Parent[1:] {
		if n, err := x.Branch(parent); n != i+1 || err != api.OK {
			t.Fatal(i, n, err)
		}
	}
	if x.Len() != len(v.Parent) || !slices.Equal(x.Tree().Parent, v.Parent) {
		t.Fatal(x.Tree(), v)
	}
	return x
}

// checkPairs compares the answers about pairs of versions.
func checkPairs(t *testing.T, x *versiontree.Index, v api.Versions, tour []int, a, b int) {
	t.Helper()
	want := slices.Contains(ancestors(v, b), a)
	if is, err := x.Ancestor(a, b); is != want || err != api.OK {
		t.Fatal(v, a, b, is, err)
	}
	if n, err := x.Common(a, b); n != common(v, a, b) || err != api.OK {
		t.Fatal(v, a, b, n, err)
	}
	first := func(n int) int { return slices.Index(tour, n) }
	last := func(n int) int { return len(tour) - 1 - slices.Index(reversed(tour), n) }
	if encloses := first(a) <= first(b) && last(b) <= last(a); encloses != want {
		t.Fatal(v, a, b, tour)
	}
}

func reversed(l []int) []int {
	l = slices.Clone(l)
	slices.Reverse(l)
	return l
}

// P32.2 to P32.5
func TestIndexes(t *testing.T) {
	n := numbers(3)
	for _, v := range shapes() {
		x := indexOf(t, v)
		tour, _ := versiontree.Euler(v)
		for a := range v.Parent {
			if d, err := x.Depth(a); d != len(ancestors(v, a))-1 || err != api.OK {
				t.Fatal(v, a, d, err)
			}
			for b := range v.Parent {
				checkPairs(t, x, v, tour, a, b)
			}
			checkNearest(t, x, v, nil, a)
			for _, size := range []int{1, 3, 10} {
				var marked []int
				for range size {
					marked = append(marked, n.below(len(v.Parent)))
				}
				checkNearest(t, x, v, marked, a)
			}
		}
		for _, wrong := range []int{-1, len(v.Parent), -1 << 63, 1<<63 - 1} {
			checkWrong(t, x, wrong)
		}
		if x.Len() != len(v.Parent) {
			t.Fatal("an error has changed the tree")
		}
	}
}

func checkNearest(t *testing.T, x *versiontree.Index, v api.Versions, marked []int, n int) {
	t.Helper()
	before := slices.Clone(marked)
	got, err := x.Nearest(marked, n)
	if !slices.Equal(marked, before) {
		t.Fatal("an argument was changed")
	}
	for _, a := range ancestors(v, n) {
		if slices.Contains(marked, a) {
			if got != a || err != api.OK {
				t.Fatal(v, marked, n, got, err)
			}
			return
		}
	}
	if got != 0 || err != api.ErrNone {
		t.Fatal(v, marked, n, got, err)
	}
}

// checkWrong asks about a number that is no version.
func checkWrong(t *testing.T, x *versiontree.Index, wrong int) {
	t.Helper()
	if n, err := x.Branch(wrong); n != 0 || err != api.ErrVersion {
		t.Error(wrong, n, err)
	}
	if n, err := x.Depth(wrong); n != 0 || err != api.ErrVersion {
		t.Error(wrong, n, err)
	}
	for _, p := range [][2]int{{wrong, 0}, {0, wrong}, {wrong, wrong}} {
		if is, err := x.Ancestor(p[0], p[1]); is || err != api.ErrVersion {
			t.Error(p, is, err)
		}
		if n, err := x.Common(p[0], p[1]); n != 0 || err != api.ErrVersion {
			t.Error(p, n, err)
		}
		if n, err := x.Nearest([]int{0, p[0]}, p[1]); n != 0 || err != api.ErrVersion {
			t.Error(p, n, err)
		}
	}
	if n, err := x.Nearest(nil, wrong); n != 0 || err != api.ErrVersion {
		t.Error(wrong, n, err)
	}
}

func TestExample(t *testing.T) {
	v := tree(-1, 0, 0, 1, 1)
	if path, _ := versiontree.Path(v, 4); !slices.Equal(path, []int{0, 1, 4}) {
		t.Error(path)
	}
	if tour, _ := versiontree.Euler(v); !slices.Equal(tour, []int{0, 1, 3, 3, 4, 4, 1, 2, 2, 0}) {
		t.Error(tour)
	}
	x := indexOf(t, v)
	if n, err := x.Common(3, 4); n != 1 || err != api.OK {
		t.Error(n, err)
	}
	if n, err := x.Nearest([]int{0, 3}, 4); n != 0 || err != api.OK {
		t.Error(n, err)
	}
}

// The greatest trees; what is true stays true while a tree grows.
func TestGreatTrees(t *testing.T) {
	long := chain(api.MaxVersions)
	wide := tree(append([]int{-1}, make([]int, api.MaxVersions-1)...)...)
	for _, v := range []api.Versions{long, wide} {
		x := indexOf(t, v)
		if n, err := x.Branch(5); n != 0 || err != api.ErrFull {
			t.Error(n, err)
		}
		if n, err := x.Branch(api.MaxVersions); n != 0 || err != api.ErrVersion {
			t.Error(n, err)
		}
		if x.Len() != api.MaxVersions || !slices.Equal(x.Tree().Parent, v.Parent) {
			t.Error(x.Len())
		}
		for a := 0; a < api.MaxVersions; a += 83 {
			for b := 0; b < api.MaxVersions; b += 71 {
				if n, err := x.Common(a, b); n != common(v, a, b) || err != api.OK {
					t.Error(a, b, n, err)
				}
			}
		}
		marked := slices.Repeat([]int{api.MaxVersions - 1, 3, 3, 0}, api.MaxVersions/4)
		checkNearest(t, x, v, marked, api.MaxVersions-2)
		for _, wrong := range []int{0, -1} {
			if n, err := x.Nearest(append(marked, wrong), wrong); n != 0 || err != api.ErrFull {
				t.Error(n, err)
			}
		}
		clear(x.Tree().Parent)
		if !slices.Equal(x.Tree().Parent, v.Parent) {
			t.Error("results share memory")
		}
	}
	x := versiontree.New()
	if x.Len() != 1 || !slices.Equal(x.Tree().Parent, []int{-1}) {
		t.Error(x.Tree())
	}
	v := tree(-1)
	n := numbers(8)
	for range 60 {
		parent := n.below(x.Len())
		x.Branch(parent)
		v.Parent = append(v.Parent, parent)
		for range 30 {
			a, b := n.below(x.Len()), n.below(x.Len())
			if is, _ := x.Ancestor(a, b); is != slices.Contains(ancestors(v, b), a) {
				t.Fatal(v, a, b, is)
			}
		}
	}
}

func TestNil(t *testing.T) {
	var x *versiontree.Index
	if x.Len() != 0 || x.Tree().Parent != nil {
		t.Error("values")
	}
	for _, f := range []func(int) (int, api.Errno){x.Branch, x.Depth} {
		for _, n := range []int{0, -1} {
			if got, err := f(n); got != 0 || err != api.ErrArg {
				t.Error(got, err)
			}
		}
	}
	if is, err := x.Ancestor(0, -1); is || err != api.ErrArg {
		t.Error(is, err)
	}
	if n, err := x.Common(0, -1); n != 0 || err != api.ErrArg {
		t.Error(n, err)
	}
	if n, err := x.Nearest(make([]int, api.MaxVersions+1), 0); n != 0 || err != api.ErrArg {
		t.Error(n, err)
	}
	checkWrong(t, &versiontree.Index{}, 0)
}
