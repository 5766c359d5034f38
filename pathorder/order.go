package pathorder

import (
	"strconv"

	"heartwood/api"
)

// order compares terms for a precedence. Equal subterms are one node, so that they are compared once.
type order struct {
	ranks map[string]int
	nodes []node
	ids   map[string]int
	known map[[2]int]bool // whether the one node is greater than the other one
}

type node struct {
	variable bool
	name     string
	parts    []int
}

func newOrder(ops []string) *order {
	o := &order{ranks: map[string]int{}, ids: map[string]int{}, known: map[[2]int]bool{}}
	for i, name := range ops {
		o.ranks[name] = i
	}
	return o
}

// before reports whether f stands before g in the precedence. Names that are not in it stand after those that are, and
// before one another: nothing is known of them.
func (o *order) before(f, g string) bool {
	i, placed := o.ranks[f]
	k, other := o.ranks[g]
	if placed && other {
		return i < k
	}
	return f != g && !other
}

func (o *order) greater(a, b api.Term) bool {
	clear(o.known)
	return o.above(o.add(a), o.add(b))
}

// add returns the number of the node of a term.
func (o *order) add(t api.Term) int {
	n := node{variable: isVariable(t), name: t.Name}
	key := t.Name + ":" + t.Sort
	for _, part := range t.L {
		i := o.add(part)
		n.parts = append(n.parts, i)
		key += "," + strconv.Itoa(i)
	}
	i, known := o.ids[key]
	if !known {
		i = len(o.nodes)
		o.ids[key] = i
		o.nodes = append(o.nodes, n)
	}
	return i
}

// above reports whether the node s is greater than the node t.
func (o *order) above(s, t int) bool {
	key := [2]int{s, t}
	r, known := o.known[key]
	if !known {
		r = o.compare(s, t)
		o.known[key] = r
	}
	return r
}

func (o *order) compare(s, t int) bool {
	f, g := o.nodes[s], o.nodes[t]
	if f.variable {
		return false
	}
	for _, part := range f.parts {
		if part == t || o.above(part, t) {
			return true
		}
	}
	if g.variable {
		return false
	}
	for _, part := range g.parts {
		if !o.above(s, part) {
			return false
		}
	}
	if f.name == g.name {
		return o.firstIsAbove(f.parts, g.parts)
	}
	return o.before(f.name, g.name)
}

// firstIsAbove reports whether the first part that differs is greater than the other one; the numbers must be equal.
func (o *order) firstIsAbove(a, b []int) bool {
	if len(a) != len(b) {
		return false
	}
	for i := range a {
		if a[i] != b[i] {
			return o.above(a[i], b[i])
		}
	}
	return false
}
