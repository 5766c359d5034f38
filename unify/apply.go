package unify

import "heartwood/api"

// apply is Apply for a valid substitution and a well-formed term.
func apply(s []api.Binding, t api.Term) (api.Term, api.Errno) {
	if clashes(s, t) {
		return api.Term{}, api.ErrType
	}
	b := builder{s: s, left: api.MaxSize}
	r, fits := b.replaced(t, 1)
	if !fits {
		return api.Term{}, api.ErrFull
	}
	// Names and limits are right by now: only variables with two sorts are left as a fault.
	if !wellFormed(r) {
		return api.Term{}, api.ErrType
	}
	return r, api.OK
}

// clashes reports whether a variable of t has the name of a binding, but another sort.
func clashes(s []api.Binding, t api.Term) bool {
	if isVariable(t) {
		i := find(s, t.Name)
		return i >= 0 && s[i].Sort != t.Sort
	}
	for _, part := range t.L {
		if clashes(s, part) {
			return true
		}
	}
	return false
}

// builder makes a term of at most left nodes. It stops as soon as the limit is met, because the whole term could be
// far greater.
type builder struct {
	s    []api.Binding
	left int
}

// replaced returns t, whose depth in the whole is given, by the substitution, and whether it fits.
func (b *builder) replaced(t api.Term, depth int) (api.Term, bool) {
	if isVariable(t) {
		if i := find(b.s, t.Name); i >= 0 {
			return b.kept(b.s[i].T, depth)
		}
	}
	return b.node(t, depth, b.replaced)
}

// kept returns t as it is.
func (b *builder) kept(t api.Term, depth int) (api.Term, bool) { return b.node(t, depth, b.kept) }

func (b *builder) node(t api.Term, depth int, part func(api.Term, int) (api.Term, bool)) (api.Term, bool) {
	b.left--
	if b.left < 0 || depth > api.MaxNest {
		return api.Term{}, false
	}
	r := api.Term{Name: t.Name, Sort: t.Sort}
	for _, p := range t.L {
		q, fits := part(p, depth+1)
		if !fits {
			return api.Term{}, false
		}
		r.L = append(r.L, q)
	}
	return r, true
}
