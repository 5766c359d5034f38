package versiontree

import (
	"heartwood/api"
	"heartwood/orderlist"
)

// Index answers questions about a tree of versions that grows. The visits of a tour of the tree are the elements of a
// list: the version n is entered at the element 2 n, and left at the next one. The tour goes to the children of a
// version from the last one to the first one, so that a new one is entered directly after its parent.
type Index struct {
	versions []version
	tour     *orderlist.List
}

// version has a jump to one of its ancestors, such that each ancestor is reached by few steps to parents or by jumps.
type version struct{ parent, depth, jump int }

// New returns an index of the tree with the version 0 alone.
func New() *Index {
	x := &Index{tour: orderlist.New()}
	x.enter(version{parent: -1}, -1)
	return x
}

// enter adds a version; it is entered directly after an element of the tour.
func (x *Index) enter(v version, after int) {
	entered, _ := x.tour.InsertAfter(after)
	x.tour.InsertAfter(entered)
	x.versions = append(x.versions, v)
}

// Len returns the number of versions.
func (x *Index) Len() int {
	if x == nil {
		return 0
	}
	return len(x.versions)
}

// check returns an error unless all numbers are those of versions.
func (x *Index) check(numbers ...int) api.Errno {
	if x == nil {
		return api.ErrArg
	}
	for _, n := range numbers {
		if n < 0 || n >= len(x.versions) {
			return api.ErrVersion
		}
	}
	return api.OK
}

// Branch adds a child to a version, and returns its number.
func (x *Index) Branch(parent int) (int, api.Errno) {
	if err := x.check(parent); err != api.OK {
		return 0, err
	}
	if len(x.versions) == api.MaxVersions {
		return 0, api.ErrFull
	}
	p := x.versions[parent]
	v := version{parent, p.depth + 1, parent}
	// Jumps double like the digits of a counter: after two of the same length there is one over both.
	if jump := x.versions[p.jump]; p.depth-jump.depth == jump.depth-x.versions[jump.jump].depth {
		v.jump = jump.jump
	}
	x.enter(v, 2*parent)
	return len(x.versions) - 1, api.OK
}

// Tree returns the tree.
func (x *Index) Tree() api.Versions {
	if x == nil {
		return api.Versions{}
	}
	var parents []int
	for _, v := range x.versions {
		parents = append(parents, v.parent)
	}
	return api.Versions{Parent: parents}
}

// Depth returns the depth of a version.
func (x *Index) Depth(n int) (int, api.Errno) {
	if err := x.check(n); err != api.OK {
		return 0, err
	}
	return x.versions[n].depth, api.OK
}

// Ancestor reports whether a is an ancestor of b.
func (x *Index) Ancestor(a, b int) (bool, api.Errno) {
	if err := x.check(a, b); err != api.OK {
		return false, err
	}
	return x.isAncestor(a, b), api.OK
}

// isAncestor reports whether the visits of a enclose the one at which b is entered.
func (x *Index) isAncestor(a, b int) bool {
	entered, _ := x.tour.Compare(2*a, 2*b)
	left, _ := x.tour.Compare(2*b, 2*a+1)
	return entered <= 0 && left < 0
}

// Common returns the common ancestor of two versions.
func (x *Index) Common(a, b int) (int, api.Errno) {
	if err := x.check(a, b); err != api.OK {
		return 0, err
	}
	for !x.isAncestor(a, b) {
		if v := x.versions[a]; x.isAncestor(v.jump, b) {
			a = v.parent
		} else {
			a = v.jump
		}
	}
	return a, api.OK
}

// Nearest returns the deepest ancestor of n that is in marked.
func (x *Index) Nearest(marked []int, n int) (int, api.Errno) {
	if x == nil {
		return 0, api.ErrArg
	}
	if len(marked) > api.MaxVersions {
		return 0, api.ErrFull
	}
	if err := x.check(append([]int{n}, marked...)...); err != api.OK {
		return 0, err
	}
	set := map[int]struct{}{}
	for _, m := range marked {
		set[m] = struct{}{}
	}
	for ; n >= 0; n = x.versions[n].parent {
		if _, found := set[n]; found {
			return n, api.OK
		}
	}
	return 0, api.ErrNone
}
