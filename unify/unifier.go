package unify

import (
	"heartwood/api"
	"heartwood/term"
)

// Unify returns the most general unifier of two terms.
func Unify(a, b api.Term) ([]api.Binding, api.Errno) {
	if !wellFormed(a) || !wellFormed(b) {
		return nil, api.ErrArg
	}
	if differInSorts(a, b) {
		return nil, api.ErrType
	}
	g := graph{vars: map[string]int{}}
	if !g.unite(g.add(a), g.add(b)) || !g.resolve() {
		return nil, api.ErrNone
	}
	return g.bindings(sortedVars(a, b))
}

// sortedVars returns the variables of both terms, ascending by names.
func sortedVars(a, b api.Term) []api.Field {
	l, _ := term.Vars(a)
	m, _ := term.Vars(b)
	var all []api.Field
	for len(l) > 0 || len(m) > 0 {
		switch {
		case len(m) == 0 || len(l) > 0 && l[0].Name < m[0].Name:
			all, l = append(all, l[0]), l[1:]
		case len(l) == 0 || m[0].Name < l[0].Name:
			all, m = append(all, m[0]), m[1:]
		default:
			l = l[1:]
		}
	}
	return all
}

// graph has the nodes of two terms, each variable once, in classes of nodes that become the same term. A class has the
// name and the parts of one of its operations, if it has any.
type graph struct {
	vars    map[string]int
	classes []class
}

type class struct {
	above     int // the class that this one has been united with, or the class itself
	operation bool
	name      string
	parts     []int
	state     int // of the search for cycles: new, open, or done
	size      int
	depth     int
}

const (
	fresh = iota
	open
	done
)

func (g *graph) add(t api.Term) int {
	if i, known := g.vars[t.Name]; known && isVariable(t) {
		return i
	}
	c := class{name: t.Name, operation: !isVariable(t)}
	for _, part := range t.L {
		c.parts = append(c.parts, g.add(part))
	}
	c.above = len(g.classes)
	if isVariable(t) {
		g.vars[t.Name] = c.above
	}
	g.classes = append(g.classes, c)
	return c.above
}

func (g *graph) find(i int) int {
	for g.classes[i].above != i {
		g.classes[i].above = g.classes[g.classes[i].above].above
		i = g.classes[i].above
	}
	return i
}

// unite makes two classes one, and those of their parts; it reports whether no two different operations meet.
func (g *graph) unite(i, j int) bool {
	i, j = g.find(i), g.find(j)
	if i == j {
		return true
	}
	if !g.classes[i].operation {
		i, j = j, i
	}
	a, b := g.classes[i], g.classes[j]
	g.classes[j].above = i
	if !b.operation {
		return true
	}
	if a.name != b.name || len(a.parts) != len(b.parts) {
		return false
	}
	for k := range a.parts {
		if !g.unite(a.parts[k], b.parts[k]) {
			return false
		}
	}
	return true
}

// resolve finds the sizes and depths of all classes, up to just above the limits; it reports whether there is no cycle.
func (g *graph) resolve() bool {
	for i := range g.classes {
		if !g.visit(g.find(i)) {
			return false
		}
	}
	return true
}

func (g *graph) visit(i int) bool {
	c := &g.classes[i]
	if c.state != fresh {
		return c.state == done
	}
	c.state = open
	c.size, c.depth = 1, 1
	for _, part := range c.parts {
		p := g.find(part)
		if !g.visit(p) {
			return false
		}
		c.size = min(c.size+g.classes[p].size, api.MaxSize+1)
		c.depth = min(max(c.depth, g.classes[p].depth+1), api.MaxNest+1)
	}
	c.state = done
	return true
}

// bindings returns what the variables, which ascend, are bound to. In a class without an operation the first one stays.
func (g *graph) bindings(vars []api.Field) ([]api.Binding, api.Errno) {
	first := map[int]api.Field{}
	for _, v := range vars {
		i := g.find(g.vars[v.Name])
		if g.classes[i].operation {
			continue
		}
		if f, known := first[i]; !known {
			first[i] = v
		} else if f.Type != v.Type {
			return nil, api.ErrNone
		}
	}
	var l []api.Binding
	for _, v := range vars {
		i := g.find(g.vars[v.Name])
		if c := g.classes[i]; c.size > api.MaxSize || c.depth > api.MaxNest {
			return nil, api.ErrFull
		}
		if g.classes[i].operation || first[i] != v {
			l = append(l, api.Binding{Name: v.Name, Sort: v.Type, T: g.term(i, first)})
		}
	}
	return l, api.OK
}

func (g *graph) term(i int, first map[int]api.Field) api.Term {
	i = g.find(i)
	if !g.classes[i].operation {
		return api.Term{Name: first[i].Name, Sort: first[i].Type}
	}
	t := api.Term{Name: g.classes[i].name}
	for _, part := range g.classes[i].parts {
		t.L = append(t.L, g.term(part, first))
	}
	return t
}
