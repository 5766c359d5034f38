package linkcut

import (
	"iter"
	"slices"
)

// vertex is a vertex, and a node of a splay tree: each of these has the vertices of a path, the uppermost one first. The
// root of a splay tree has above it the parent of the uppermost vertex of its path.
type vertex struct {
	number             int
	weight             int
	above, left, right *vertex
	turned             bool // what is below both sides is still to be exchanged
	// Of the vertices of the subtree:
	size, sum   int
	first, last *vertex // with the least weight: the first, and the last one
}

// isTop reports whether x is the root of its splay tree.
func (x *vertex) isTop() bool {
	return x.above == nil || x.above.left != x && x.above.right != x
}

// turn exchanges the sides of a subtree.
func (x *vertex) turn() {
	if x != nil {
		x.turned = !x.turned
		x.left, x.right = x.right, x.left
		x.first, x.last = x.last, x.first
	}
}

// push hands a turn down to both sides.
func (x *vertex) push() {
	if x.turned {
		x.left.turn()
		x.right.turn()
		x.turned = false
	}
}

// fix computes what is known of a subtree from its parts.
func (x *vertex) fix() {
	x.size, x.sum, x.first, x.last = 1, x.weight, x, x
	if l := x.left; l != nil {
		x.size += l.size
		x.sum += l.sum
		if l.first.weight <= x.first.weight {
			x.first = l.first
		}
		if l.first.weight < x.last.weight {
			x.last = l.last
		}
	}
	if r := x.right; r != nil {
		x.size += r.size
		x.sum += r.sum
		if r.first.weight < x.first.weight {
			x.first = r.first
		}
		if r.first.weight <= x.last.weight {
			x.last = r.last
		}
	}
}

// upward yields x and the nodes above it in its splay tree.
func (x *vertex) upward() iter.Seq[*vertex] {
	return func(yield func(*vertex) bool) {
		for yield(x) && !x.isTop() {
			x = x.above
		}
	}
}

// rotate turns x around the node above it.
func (f *Forest) rotate(x *vertex) {
	f.steps++
	y := x.above
	if !y.isTop() {
		if y.above.left == y {
			y.above.left = x
		} else {
			y.above.right = x
		}
	}
	x.above, y.above = y.above, x
	if y.left == x {
		y.left, x.right = x.right, y
		if y.left != nil {
			y.left.above = y
		}
	} else {
		y.right, x.left = x.left, y
		if y.right != nil {
			y.right.above = y
		}
	}
	y.fix()
	x.fix()
}

// splay makes x the root of its splay tree.
func (f *Forest) splay(x *vertex) {
	for _, y := range slices.Backward(slices.Collect(x.upward())) {
		y.push()
	}
	for !x.isTop() {
		if y := x.above; !y.isTop() {
			if (y.left == x) == (y.above.left == y) {
				f.rotate(y)
			} else {
				f.rotate(x)
			}
		}
		f.rotate(x)
	}
}

// access makes the path from the root to x one splay tree with x as its root, without a right side. It returns the
// vertex at which that path left the one that was accessed before.
func (f *Forest) access(x *vertex) *vertex {
	var below *vertex
	for y := x; y != nil; y = y.above {
		f.splay(y)
		y.right = below
		y.fix()
		below = y
	}
	f.splay(x)
	return below
}

// root returns the root of the tree of x.
func (f *Forest) root(x *vertex) *vertex {
	f.access(x)
	for x.push(); x.left != nil; x.push() {
		x = x.left
	}
	f.splay(x)
	return x
}

// evert makes x the root of its tree.
func (f *Forest) evert(x *vertex) {
	f.access(x)
	x.turn()
	x.push()
}
