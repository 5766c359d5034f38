package rangetree

import "sort"

// part is a static range tree.
type part struct {
	byX  []entry // in the order of points
	root *node
}

// node has some points that follow one another in the order of points; a node with several ones has two children.
type node struct {
	byY         []entry
	sums        []int // of the weights of so many first ones by Y
	lefts       []int // how many of so many first ones by Y are in the left child
	left, right *node
}

// newPart returns the part of entries in the order of points.
func newPart(l []entry) *part { return &part{byX: l, root: newNode(l)} }

func newNode(l []entry) *node {
	n := &node{sums: []int{0}, lefts: []int{0}}
	if len(l) == 1 {
		n.put(l[0], 0)
		return n
	}
	n.left, n.right = newNode(l[:len(l)/2]), newNode(l[len(l)/2:])
	a, b := n.left.byY, n.right.byY
	for len(a) > 0 || len(b) > 0 {
		if len(b) == 0 || len(a) > 0 && a[0].point.Y <= b[0].point.Y {
			n.put(a[0], 1)
			a = a[1:]
		} else {
			n.put(b[0], 0)
			b = b[1:]
		}
	}
	return n
}

// put adds the next entry by Y; left is 1 if it is in the left child, and 0 otherwise.
func (n *node) put(e entry, left int) {
	last := len(n.byY)
	n.byY = append(n.byY, e)
	n.sums = append(n.sums, n.sums[last]+e.point.W)
	n.lefts = append(n.lefts, n.lefts[last]+left)
}

// rows returns from where to where the points with Y from y1 to y2 stand in the list of the root.
func (p *part) rows(y1, y2 int) (int, int) {
	l := p.root.byY
	from := sort.Search(len(l), func(i int) bool { return l[i].point.Y >= y1 })
	to := sort.Search(len(l), func(i int) bool { return l[i].point.Y > y2 })
	return from, to
}

// visit calls see for nodes that together have the points of a rectangle: those from from to to - 1 by Y of each node.
func (p *part) visit(r rectangle, see func(n *node, from, to int)) {
	if p == nil {
		return
	}
	first := sort.Search(len(p.byX), func(i int) bool { return p.byX[i].point.X >= r.x1 })
	end := sort.Search(len(p.byX), func(i int) bool { return p.byX[i].point.X > r.x2 })
	from, to := p.rows(r.y1, r.y2)
	p.root.visit(first, end, from, to, see)
}

// visit does it for the points from first to end - 1 in the order of points that are among those from from to to - 1
// by Y.
func (n *node) visit(first, end, from, to int, see func(n *node, from, to int)) {
	first, end = max(first, 0), min(end, len(n.byY))
	switch {
	case first >= end || from >= to:
		return
	case first == 0 && end == len(n.byY):
		see(n, from, to)
		return
	}
	middle := len(n.left.byY)
	leftFrom, leftTo := n.lefts[from], n.lefts[to]
	n.left.visit(first, end, leftFrom, leftTo, see)
	n.right.visit(first-middle, end-middle, from-leftFrom, to-leftTo, see)
}

// first returns the first entry with X at least x1, and Y from y1 to y2, that is not passed over.
func (p *part) first(x1, y1, y2 int, over func(entry) bool) (entry, bool) {
	if p == nil {
		return entry{}, false
	}
	first := sort.Search(len(p.byX), func(i int) bool { return p.byX[i].point.X >= x1 })
	from, to := p.rows(y1, y2)
	return p.root.first(first, from, to, over)
}

// first does it for the points from first on in the order of points that are among those from from to to - 1 by Y.
func (n *node) first(first, from, to int, over func(entry) bool) (entry, bool) {
	if first >= len(n.byY) || from >= to {
		return entry{}, false
	}
	if n.left == nil {
		return n.byY[0], !over(n.byY[0])
	}
	leftFrom, leftTo := n.lefts[from], n.lefts[to]
	if e, found := n.left.first(first, leftFrom, leftTo, over); found {
		return e, true
	}
	return n.right.first(first-len(n.left.byY), from-leftFrom, to-leftTo, over)
}
