package term

import (
	"iter"

	"heartwood/api"
	"heartwood/lex"
)

// nodes returns the nodes of t with their depths, in preorder. An argument may share its parts, or contain itself, so
// that it has too many nodes to visit: a loop over a term that has not been found to fit must stop itself.
func nodes(t api.Term) iter.Seq2[int, api.Term] {
	return func(yield func(int, api.Term) bool) {
		visit(t, 1, yield)
	}
}

func visit(t api.Term, depth int, yield func(int, api.Term) bool) bool {
	if !yield(depth, t) {
		return false
	}
	for i := range t.L {
		if !visit(t.L[i], depth+1, yield) {
			return false
		}
	}
	return true
}

func isVariable(t api.Term) bool { return t.Sort != "" }

// fits reports whether t keeps the limits on nodes, depth, and parts.
func fits(t api.Term) bool {
	count := 0
	for depth, node := range nodes(t) {
		count++
		if count > api.MaxSize || depth > api.MaxNest || len(node.L) > api.MaxParams {
			return false
		}
	}
	return true
}

// wellNamed reports whether a node has names where it must have them, and no parts if it is a variable.
func wellNamed(node api.Term) bool {
	if isVariable(node) && (!lex.IsName(node.Sort) || len(node.L) > 0) {
		return false
	}
	return lex.IsName(node.Name)
}

// variableSorts returns the sorts of the variables of t, and whether each of them has one sort only.
func variableSorts(t api.Term) (map[string]string, bool) {
	sorts := map[string]string{}
	for _, node := range nodes(t) {
		if !isVariable(node) {
			continue
		}
		if sort, known := sorts[node.Name]; known && sort != node.Sort {
			return nil, false
		}
		sorts[node.Name] = node.Sort
	}
	return sorts, true
}

func wellFormed(t api.Term) bool {
	if !fits(t) {
		return false
	}
	for _, node := range nodes(t) {
		if !wellNamed(node) {
			return false
		}
	}
	_, agree := variableSorts(t)
	return agree
}

// find returns the subterm of t at a path, or nil if the path leads nowhere.
func find(t *api.Term, path []int) *api.Term {
	for _, i := range path {
		if i < 0 || i >= len(t.L) {
			return nil
		}
		t = &t.L[i]
	}
	return t
}

func copied(t api.Term) api.Term {
	r := api.Term{Name: t.Name, Sort: t.Sort}
	if len(t.L) == 0 {
		return r
	}
	r.L = make([]api.Term, len(t.L))
	for i := range t.L {
		r.L[i] = copied(t.L[i])
	}
	return r
}
