package rewrite

import (
	"slices"

	"heartwood/api"
)

// run is a term that is being rewritten. Its terms share memory with one another and with the arguments, and none of
// them is ever changed.
type run struct {
	rules []api.Rule
	heads map[string][]int // the rules whose Left has an operation
	t     api.Term
	size  int   // of t
	from  []int // what comes before the subterm at this path, in postorder, is normal
}

func newRun(l []api.Rule, t api.Term) *run {
	r := &run{rules: l, heads: map[string][]int{}, t: t, size: size(t)}
	for i, rule := range l {
		r.heads[rule.Left.Name] = append(r.heads[rule.Left.Name], i)
	}
	return r
}

// found is a redex with the subterm at its path, and the substitution.
type found struct {
	redex api.Redex
	at    api.Term
	bound bindings
}

// next returns the first redex of the term in postorder.
func (r *run) next() (found, bool) { return r.first(r.t, nil, r.from) }

// first returns the first redex in a subterm t with a path; from leads to where the search in it begins.
func (r *run) first(t api.Term, path, from []int) (found, bool) {
	begin := 0
	if len(from) > 0 {
		begin, from = from[0], from[1:]
	}
	for i := begin; i < len(t.L); i++ {
		if x, ok := r.first(t.L[i], append(path, i), from); ok {
			return x, true
		}
		from = nil
	}
	if isVariable(t) {
		return found{}, false
	}
	for _, i := range r.heads[t.Name] {
		if b, ok := match(r.rules[i].Left, t); ok {
			return found{api.Redex{Rule: i, Path: slices.Clone(path)}, t, b}, true
		}
	}
	return found{}, false
}

// replace puts the result of a redex into the term, and reports whether it fits.
func (r *run) replace(x found) bool {
	u := instance(r.rules[x.redex.Rule].Right, x.bound)
	n := r.size - size(x.at) + size(u)
	if n > api.MaxSize || len(x.redex.Path)+depth(u) > api.MaxNest {
		return false
	}
	r.t, r.size, r.from = put(r.t, x.redex.Path, u), n, x.redex.Path
	return true
}

// redo replaces a redex that need not be one.
func (r *run) redo(x api.Redex) api.Errno {
	at, ok := subterm(r.t, x.Path)
	if !ok || x.Rule < 0 || x.Rule >= len(r.rules) {
		return api.ErrRange
	}
	b, ok := match(r.rules[x.Rule].Left, at)
	if !ok {
		return api.ErrNone
	}
	if !r.replace(found{x, at, b}) {
		return api.ErrFull
	}
	return api.OK
}

// bindings are the terms that the variables of a rule stand for, by their names.
type bindings map[string]api.Term

// match returns the substitution that makes the pattern t, whose variables have nothing to do with those of the pattern.
func match(pattern, t api.Term) (bindings, bool) {
	b := bindings{}
	return b, b.match(pattern, t)
}

func (b bindings) match(pattern, t api.Term) bool {
	if isVariable(pattern) {
		if isVariable(t) && t.Sort != pattern.Sort {
			return false
		}
		old, known := b[pattern.Name]
		b[pattern.Name] = t
		return !known || equal(old, t)
	}
	return !isVariable(t) && pattern.Name == t.Name && slices.EqualFunc(pattern.L, t.L, b.match)
}

// instance returns t with the variables that are bound replaced.
func instance(t api.Term, b bindings) api.Term {
	if isVariable(t) {
		if u, bound := b[t.Name]; bound {
			return u
		}
		return t
	}
	r := api.Term{Name: t.Name}
	for _, part := range t.L {
		r.L = append(r.L, instance(part, b))
	}
	return r
}

func subterm(t api.Term, path []int) (api.Term, bool) {
	for _, i := range path {
		if i < 0 || i >= len(t.L) {
			return api.Term{}, false
		}
		t = t.L[i]
	}
	return t, true
}

// put returns t with u at a path.
func put(t api.Term, path []int, u api.Term) api.Term {
	if len(path) == 0 {
		return u
	}
	l := slices.Clone(t.L)
	l[path[0]] = put(l[path[0]], path[1:], u)
	return api.Term{Name: t.Name, L: l}
}
