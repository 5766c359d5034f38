package softheap

// item is an item of a heap, in the list of its group.
type item struct {
	id, key int
	group   *group // it may have been joined to another one
	next    *item
}

// group is a list of items that share a current key.
type group struct {
	key         int
	first, last *item
	sound       int    // how many of the items have this as their own key
	joined      *group // the group that has the items now, if these were joined to another one
}

// current returns the current key of an item.
func (e *item) current() int {
	for e.group.joined != nil {
		e.group = e.group.joined
	}
	return e.group.key
}

// removeFirst takes the first item out of a group.
func (g *group) removeFirst() *item {
	e := g.first
	g.first = e.next
	if e.key == g.key {
		g.sound--
	}
	return e
}

// node is a node of a tree. A tree of a rank was made of two of the rank below; its nodes have keys that are at most
// those of their children. A node with one child has it on the left.
type node struct {
	rank        int
	group       *group
	left, right *node
}

// refill gives items to a node that has children, but no items. Nodes of high even ranks take the items of two
// descents, those of the first one being corrupted; if raising is false, as when heaps are melded, they take those of
// one, and no current key changes. Two trees are joined thus in a step for each rank, which is a constant for each
// insertion, as half as many trees are joined at each rank as at the one below.
//
// A node has thus at most 2^ceil(j/2) items at the rank rate + 2 + j, and one item up to the rank rate + 2. After i
// insertions there are at most i / 2^rank nodes of a rank. So the items of the nodes above the rank rate + 2 are at most
// i / 2^(rate + 2) times 2/2 + 2/4 + 4/8 + 4/16 + .. = 3: less than i / 2^rate.
func (h *Heap) refill(x *node, raising bool) {
	h.pull(x, raising)
	if raising && x.rank > h.rate+2 && x.rank%2 == 0 && x.left != nil {
		h.pull(x, raising)
	}
}

// pull moves the items of the child with the least key into a node; a child that cannot be refilled is removed.
func (h *Heap) pull(x *node, raising bool) {
	if x.right != nil && x.right.group.key < x.left.group.key {
		x.left, x.right = x.right, x.left
	}
	child := x.left
	h.join(x, child.group)
	child.group = nil
	if child.left != nil {
		h.refill(child, raising)
	} else {
		x.left, x.right = x.right, nil
	}
}

// join puts the items of a group into a node; those that are there get its key.
func (h *Heap) join(x *node, g *group) {
	if old := x.group; old != nil {
		if old.key < g.key {
			h.corrupted += old.sound
		} else {
			g.sound += old.sound
		}
		g.last.next = old.first
		g.last = old.last
		old.joined = g
	}
	x.group = g
}
