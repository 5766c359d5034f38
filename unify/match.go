package unify

import (
	"slices"

	"heartwood/api"
	"heartwood/term"
)

// Match returns the substitution that makes the pattern the term.
func Match(pattern, t api.Term) ([]api.Binding, api.Errno) {
	if !wellFormed(pattern) || !wellFormed(t) {
		return nil, api.ErrArg
	}
	if differInSorts(pattern, t) {
		return nil, api.ErrType
	}
	m := matcher{}
	if !m.match(pattern, t) {
		return nil, api.ErrNone
	}
	vars, _ := term.Vars(pattern)
	var l []api.Binding
	for _, v := range vars {
		if u := m[v.Name]; !isVariable(u) || u.Name != v.Name {
			l = append(l, api.Binding{Name: v.Name, Sort: v.Type, T: copied(u)})
		}
	}
	return l, api.OK
}

// Variant reports whether a is b with other names of variables.
func Variant(a, b api.Term) (bool, api.Errno) {
	if !wellFormed(a) || !wellFormed(b) {
		return false, api.ErrArg
	}
	return matcher{}.match(a, b) && matcher{}.match(b, a), api.OK
}

// Instance reports whether t is an instance of the term general.
func Instance(general, t api.Term) (bool, api.Errno) {
	if !wellFormed(general) || !wellFormed(t) {
		return false, api.ErrArg
	}
	return matcher{}.match(general, t), api.OK
}

// matcher has the terms that the variables of a pattern stand for, by their names.
type matcher map[string]api.Term

func (m matcher) match(pattern, t api.Term) bool {
	if isVariable(pattern) {
		if isVariable(t) && t.Sort != pattern.Sort {
			return false
		}
		old, known := m[pattern.Name]
		m[pattern.Name] = t
		return !known || equal(old, t)
	}
	return !isVariable(t) && pattern.Name == t.Name && slices.EqualFunc(pattern.L, t.L, m.match)
}

// differInSorts reports whether a variable of a has the name, but not the sort, of one of b.
func differInSorts(a, b api.Term) bool {
	sorts := map[string]string{}
	vars, _ := term.Vars(a)
	for _, v := range vars {
		sorts[v.Name] = v.Type
	}
	vars, _ = term.Vars(b)
	for _, v := range vars {
		if sort, known := sorts[v.Name]; known && sort != v.Type {
			return true
		}
	}
	return false
}
