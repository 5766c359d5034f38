package rewrite

import (
	"slices"

	"heartwood/api"
	"heartwood/term"
	"heartwood/unify"
)

// Pairs returns the critical pairs of rules.
func Pairs(l []api.Rule) ([]api.CriticalPair, api.Errno) {
	if !wellFormed(l) {
		return nil, api.ErrArg
	}
	outer, err := renamed(l, "_1")
	if err != api.OK {
		return nil, err
	}
	inner, err := renamed(l, "_2")
	if err != api.OK {
		return nil, err
	}
	var pairs []api.CriticalPair
	for i, o := range outer {
		for _, path := range operations(o.Left, nil) {
			for k, n := range inner {
				if len(path) == 0 && k <= i {
					continue
				}
				p, err := pair(o, n, path)
				if err == api.ErrNone {
					continue
				}
				if err != api.OK || len(pairs) == api.MaxList {
					return nil, api.ErrFull
				}
				p.Outer, p.Inner = i, k
				pairs = append(pairs, p)
			}
		}
	}
	return pairs, api.OK
}

// renamed returns rules with a suffix after the names of their variables.
func renamed(l []api.Rule, suffix string) ([]api.Rule, api.Errno) {
	var r []api.Rule
	for _, x := range l {
		left, err := unify.Rename(x.Left, suffix)
		if err != api.OK {
			return nil, err
		}
		right, err := unify.Rename(x.Right, suffix)
		if err != api.OK {
			return nil, err
		}
		r = append(r, api.Rule{Left: left, Right: right})
	}
	return r, api.OK
}

// operations returns the paths to all subterms of t, which is at a path itself, that are no variables, in preorder.
func operations(t api.Term, path []int) [][]int {
	if isVariable(t) {
		return nil
	}
	l := [][]int{slices.Clone(path)}
	for i, part := range t.L {
		l = append(l, operations(part, append(path, i))...)
	}
	return l
}

// pair returns the critical pair of two rules at a path, or ErrNone if there is none.
func pair(outer, inner api.Rule, path []int) (api.CriticalPair, api.Errno) {
	at, _ := subterm(outer.Left, path)
	if at.Name != inner.Left.Name || len(at.L) != len(inner.Left.L) {
		return api.CriticalPair{}, api.ErrNone
	}
	s, err := unify.Unify(at, inner.Left)
	if err != api.OK {
		return api.CriticalPair{}, err
	}
	bound := bindings{}
	for _, b := range s {
		bound[b.Name] = b.T
	}
	peak, fits1 := applied(bound, outer.Left)
	part, fits2 := applied(bound, inner.Right)
	right, fits3 := applied(bound, outer.Right)
	if !fits1 || !fits2 || !fits3 {
		return api.CriticalPair{}, api.ErrFull
	}
	left, err := term.Replace(peak, path, part)
	return api.CriticalPair{Peak: peak, Left: left, Right: right, Path: slices.Clone(path)}, err
}

// applied returns a copy of t with the variables that are bound replaced, and whether it fits. A unifier may bind more
// variables than a substitution of layer 5.
func applied(b bindings, t api.Term) (api.Term, bool) {
	r := instance(t, b)
	if size(r) > api.MaxSize || depth(r) > api.MaxNest {
		return api.Term{}, false
	}
	return copied(r), true
}
