package fingertree

// node is a node of a balanced tree with an element: the depths of both sides differ by at most 1. Nodes never change;
// nil is the tree without elements.
type node struct {
	left, right *node
	x           int
	size        int
	height      int
	sum         int
	most        int // the greatest sum of one or more first elements
}

func (n *node) count() int {
	if n == nil {
		return 0
	}
	return n.size
}

func (n *node) depth() int {
	if n == nil {
		return 0
	}
	return n.height
}

func (n *node) total() int {
	if n == nil {
		return 0
	}
	return n.sum
}

// made returns a node with two sides that are balanced.
func made(left *node, x int, right *node) *node {
	n := &node{left: left, right: right, x: x, size: left.count() + 1 + right.count(), height: max(left.depth(), right.depth()) + 1}
	here := left.total() + x
	n.sum, n.most = here+right.total(), here
	if left != nil {
		n.most = max(n.most, left.most)
	}
	if right != nil {
		n.most = max(n.most, here+right.most)
	}
	return n
}

// built returns a tree with the elements of a list.
func built(l []int) *node {
	if len(l) == 0 {
		return nil
	}
	m := len(l) / 2
	return made(built(l[:m]), l[m], built(l[m+1:]))
}

// balanced returns a node with two sides whose depths differ by at most 2.
func balanced(left *node, x int, right *node) *node {
	switch {
	case left.depth() > right.depth()+1:
		if left.left.depth() >= left.right.depth() {
			return made(left.left, left.x, made(left.right, x, right))
		}
		m := left.right
		return made(made(left.left, left.x, m.left), m.x, made(m.right, x, right))
	case right.depth() > left.depth()+1:
		if right.right.depth() >= right.left.depth() {
			return made(made(left, x, right.left), right.x, right.right)
		}
		m := right.left
		return made(made(left, x, m.left), m.x, made(m.right, right.x, right.right))
	}
	return made(left, x, right)
}

// join returns the tree with the elements of left, x, and the elements of right.
func join(left *node, x int, right *node) *node {
	switch {
	case left.depth() > right.depth()+1:
		return balanced(left.left, left.x, join(left.right, x, right))
	case right.depth() > left.depth()+1:
		return balanced(join(left, x, right.left), right.x, right.right)
	}
	return made(left, x, right)
}

// split returns the trees with the first i elements, and with the others.
func (n *node) split(i int) (*node, *node) {
	if n == nil {
		return nil, nil
	}
	if i <= n.left.count() {
		a, b := n.left.split(i)
		return a, join(b, n.x, n.right)
	}
	a, b := n.right.split(i - n.left.count() - 1)
	return join(n.left, n.x, a), b
}

func (n *node) each(f func(x int)) {
	if n != nil {
		n.left.each(f)
		f(n.x)
		n.right.each(f)
	}
}

// at returns the element with an index, which there is.
func (n *node) at(i int) int {
	for {
		switch k := n.left.count(); {
		case i < k:
			n = n.left
		case i == k:
			return n.x
		default:
			n, i = n.right, i-k-1
		}
	}
}

func (n *node) set(i, x int) *node {
	switch k := n.left.count(); {
	case i < k:
		return made(n.left.set(i, x), n.x, n.right)
	case i == k:
		return made(n.left, x, n.right)
	default:
		return made(n.left, n.x, n.right.set(i-k-1, x))
	}
}

// prefix returns the sum of the first i elements.
func (n *node) prefix(i int) int {
	sum := 0
	for n != nil {
		k := n.left.count()
		if i <= k {
			n = n.left
			continue
		}
		sum += n.left.total() + n.x
		n, i = n.right, i-k-1
	}
	return sum
}

// search returns the least number of first elements whose sum is at least sum, which is positive and reached.
func (n *node) search(sum int) int {
	before := 0
	for {
		if n.left != nil && n.left.most >= sum {
			n = n.left
			continue
		}
		before += n.left.count() + 1
		sum -= n.left.total() + n.x
		if sum <= 0 {
			return before
		}
		n = n.right
	}
}
