package spec

import (
	"slices"
	"strconv"

	"heartwood/api"
	"heartwood/term"
)

// maxLooks is how many terms are looked at for a missing pattern.
const maxLooks = 2000

// Complete reports whether a specification is complete; if not, it returns the missing pattern.
func Complete(s api.Spec) (bool, api.Term, api.Errno) {
	if !Valid(s) {
		return false, api.Term{}, api.ErrArg
	}
	looks := 0
	for _, d := range s.Sig.Ops {
		if slices.Contains(s.Ctors, d.Name) {
			continue
		}
		missing, found, err := look(s, general(d), &looks)
		if err != api.OK {
			return false, api.Term{}, err
		}
		if found {
			n := 0
			missing = numbered(missing, &n)
			if term.Size(missing) == 0 {
				return false, api.Term{}, api.ErrFull
			}
			return false, missing, api.OK
		}
	}
	return true, api.Term{}, api.OK
}

// general returns an operation with variables, which have no names yet, as parts.
func general(d api.Decl) api.Term {
	t := api.Term{Name: d.Name}
	for _, sort := range d.Args {
		t.L = append(t.L, api.Term{Sort: sort})
	}
	return t
}

// look looks for a missing pattern among the instances of t, and counts the terms that are looked at.
func look(s api.Spec, t api.Term, looks *int) (api.Term, bool, api.Errno) {
	*looks++
	if *looks > maxLooks {
		return api.Term{}, false, api.ErrLimit
	}
	var near []api.Term
	for _, r := range s.Rules {
		if covers(r.Left, t) {
			return api.Term{}, false, api.OK
		}
		if overlap(r.Left, t) {
			near = append(near, r.Left)
		}
	}
	path, split := firstSplit(t, near)
	if !split {
		return t, true, api.OK
	}
	sort := at(t, path).Sort
	for _, c := range s.Ctors {
		d, _ := declOf(s.Sig, c)
		if d.Result != sort {
			continue
		}
		missing, found, err := look(s, put(t, path, general(d)), looks)
		if found || err != api.OK {
			return missing, found, err
		}
	}
	return api.Term{}, false, api.OK
}

// firstSplit returns the path to the first variable of t at whose place one of the terms that overlap with t has an
// operation.
func firstSplit(t api.Term, near []api.Term) ([]int, bool) {
	near = slices.DeleteFunc(near, isVariable)
	if isVariable(t) {
		return nil, len(near) > 0
	}
	for i, part := range t.L {
		var parts []api.Term
		for _, n := range near {
			parts = append(parts, n.L[i])
		}
		if path, split := firstSplit(part, parts); split {
			return append([]int{i}, path...), true
		}
	}
	return nil, false
}

func at(t api.Term, path []int) api.Term {
	for _, i := range path {
		t = t.L[i]
	}
	return t
}

// put returns t with u at a path.
func put(t api.Term, path []int, u api.Term) api.Term {
	if len(path) == 0 {
		return u
	}
	l := slices.Clone(t.L)
	l[path[0]] = put(l[path[0]], path[1:], u)
	return api.Term{Name: t.Name, L: l}
}

// numbered returns a copy of t in which the variables are named x1, x2, .. in preorder.
func numbered(t api.Term, n *int) api.Term {
	if isVariable(t) {
		*n++
		return api.Term{Name: "x" + strconv.Itoa(*n), Sort: t.Sort}
	}
	r := api.Term{Name: t.Name}
	for _, part := range t.L {
		r.L = append(r.L, numbered(part, n))
	}
	return r
}
