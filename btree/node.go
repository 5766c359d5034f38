package btree

import "slices"

// node is a node; a leaf has no children.
type node struct {
	keys, values []int
	children     []*node
}

// step is a node on a path, with the index of the key that was found there, or of the child that comes next.
type step struct {
	n  *node
	at int
}

// walk yields the entries, and reports whether it may go on.
func (n *node) walk(yield func(key, value int) bool) bool {
	if n == nil {
		return true
	}
	for i, key := range n.keys {
		if len(n.children) > 0 && !n.children[i].walk(yield) || !yield(key, n.values[i]) {
			return false
		}
	}
	return len(n.children) == 0 || n.children[len(n.keys)].walk(yield)
}

// descend returns the path to a key, or to the place in a leaf where it belongs, and whether it was found.
func (t *Tree) descend(key int) ([]step, bool) {
	var path []step
	for n := t.root; n != nil; {
		i, found := slices.BinarySearch(n.keys, key)
		path = append(path, step{n, i})
		if found {
			return path, true
		}
		if len(n.children) == 0 {
			break
		}
		n = n.children[i]
	}
	return path, false
}

// put inserts an entry, with the child after it, if there is one.
func (n *node) put(at, key, value int, after *node) {
	n.keys = slices.Insert(n.keys, at, key)
	n.values = slices.Insert(n.values, at, value)
	if after != nil {
		n.children = slices.Insert(n.children, at+1, after)
	}
}

// insert inserts an entry at the end of a path; nodes that become too great are split, which makes new ones.
func (t *Tree) insert(path []step, key, value int) {
	t.count++
	var after *node
	for _, s := range slices.Backward(path) {
		s.n.put(s.at, key, value, after)
		if len(s.n.keys) < t.order {
			return
		}
		key, value, after = s.n.split()
		t.visits++
	}
	root := &node{keys: []int{key}, values: []int{value}}
	if after != nil {
		root.children = []*node{t.root, after}
	}
	t.root = root
	t.visits++
}

// split moves the last half of a node to a new one, and returns the entry between both.
func (n *node) split() (key, value int, after *node) {
	middle := len(n.keys) / 2
	key, value = n.keys[middle], n.values[middle]
	after = &node{keys: slices.Clone(n.keys[middle+1:]), values: slices.Clone(n.values[middle+1:])}
	n.keys, n.values = n.keys[:middle], n.values[:middle]
	if len(n.children) > 0 {
		after.children = slices.Clone(n.children[middle+1:])
		n.children = n.children[:middle+1]
	}
	return key, value, after
}

// remove removes the entry at the end of a path. One that is not in a leaf is replaced by the one before it.
func (t *Tree) remove(path []step) {
	t.count--
	found := path[len(path)-1]
	for n := found.n; len(n.children) > 0; {
		n = n.children[path[len(path)-1].at]
		path = append(path, step{n, len(n.keys)})
		t.visits++
	}
	leaf := path[len(path)-1]
	if leaf.n != found.n {
		leaf.at--
		found.n.keys[found.at], found.n.values[found.at] = leaf.n.keys[leaf.at], leaf.n.values[leaf.at]
	}
	leaf.n.keys = slices.Delete(leaf.n.keys, leaf.at, leaf.at+1)
	leaf.n.values = slices.Delete(leaf.n.values, leaf.at, leaf.at+1)
	least := (t.order+1)/2 - 1
	for i := len(path) - 1; i > 0 && len(path[i].n.keys) < least; i-- {
		t.refill(path[i-1], least)
	}
	if len(t.root.keys) == 0 {
		if len(t.root.children) > 0 {
			t.root = t.root.children[0]
		} else {
			t.root = nil
		}
	}
}

// refill gives an entry to a child that has too few: one of a neighbour, or all of one, which is then joined with it.
func (t *Tree) refill(parent step, least int) {
	p, at := parent.n, parent.at
	if at > 0 {
		t.visits++
		if len(p.children[at-1].keys) > least {
			p.moveRight(at - 1)
			return
		}
	}
	if at < len(p.keys) {
		t.visits++
		if len(p.children[at+1].keys) > least {
			p.moveLeft(at)
			return
		}
	}
	p.join(max(at-1, 0))
}

// moveRight moves the last entry before an entry of a node into its place, and this to the child after it.
func (p *node) moveRight(at int) {
	left, right := p.children[at], p.children[at+1]
	last := len(left.keys) - 1
	right.keys = slices.Insert(right.keys, 0, p.keys[at])
	right.values = slices.Insert(right.values, 0, p.values[at])
	p.keys[at], p.values[at] = left.keys[last], left.values[last]
	left.keys, left.values = left.keys[:last], left.values[:last]
	if len(left.children) > 0 {
		right.children = slices.Insert(right.children, 0, left.children[last+1])
		left.children = left.children[:last+1]
	}
}

// moveLeft moves the first entry after an entry of a node into its place, and this to the child before it.
func (p *node) moveLeft(at int) {
	left, right := p.children[at], p.children[at+1]
	left.keys, left.values = append(left.keys, p.keys[at]), append(left.values, p.values[at])
	p.keys[at], p.values[at] = right.keys[0], right.values[0]
	right.keys, right.values = slices.Delete(right.keys, 0, 1), slices.Delete(right.values, 0, 1)
	if len(right.children) > 0 {
		left.children = append(left.children, right.children[0])
		right.children = slices.Delete(right.children, 0, 1)
	}
}

// join joins both children beside an entry of a node with it.
func (p *node) join(at int) {
	left, right := p.children[at], p.children[at+1]
	left.keys = slices.Concat(left.keys, p.keys[at:at+1], right.keys)
	left.values = slices.Concat(left.values, p.values[at:at+1], right.values)
	left.children = append(left.children, right.children...)
	p.keys, p.values = slices.Delete(p.keys, at, at+1), slices.Delete(p.values, at, at+1)
	p.children = slices.Delete(p.children, at+1, at+2)
}
