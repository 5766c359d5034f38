package verify

import (
	"slices"

	"heartwood/api"
)

// constraint says that the symbol left less the symbol right is at most an integer.
type constraint struct{ left, right, most int }

// atMost says that a is at most b plus an integer.
func atMost(a, b value, plus int) constraint {
	return constraint{a.symbol, b.symbol, b.plus + plus - a.plus}
}

// ordered says that a comparison of a and b is true, or not.
func ordered(op int, a, b value, truth bool) constraint {
	switch {
	case op == api.XLess && truth:
		return atMost(a, b, -1)
	case op == api.XLess:
		return atMost(b, a, 0)
	case truth:
		return atMost(a, b, 0)
	}
	return atMost(b, a, -1)
}

// equality says that a and b are equal (0), or that a is less (1), or greater (2).
func equality(a, b value, c int) []constraint {
	switch c {
	case 0:
		return []constraint{atMost(a, b, 0), atMost(b, a, 0)}
	case 1:
		return []constraint{atMost(a, b, -1)}
	}
	return []constraint{atMost(b, a, -1)}
}

func (t term) of(values []value) value {
	if t.base < 0 {
		return value{symbol: zero, plus: t.plus}
	}
	v := values[t.base]
	v.plus += t.plus
	return v
}

// hold says that atoms are true for values.
func hold(atoms []atom, values []value) []constraint {
	var l []constraint
	for _, a := range atoms {
		left, right := a.left.of(values), a.right.of(values)
		if a.op == api.XEqual {
			l = append(l, equality(left, right, 0)...)
		} else {
			l = append(l, ordered(a.op, left, right, true))
		}
	}
	return l
}

// goal has the constraints that a refutation must refute.
type goal struct {
	refutation  api.Refutation // without its cycle
	constraints []constraint
}

// goals returns the goals of an execution.
func (v *verifier) goals(x *execution) []goal {
	known := slices.Clone(x.constraints)
	for i, inv := range v.d.Invariants {
		if inv.Type == "" {
			known = append(known, hold(v.atoms[i], x.begin)...)
		}
	}
	for _, o := range x.objects {
		for i, inv := range v.d.Invariants {
			if !o.fresh && inv.Type == v.d.Types[o.typ].Name {
				known = append(known, hold(v.atoms[i], o.begin)...)
			}
		}
	}
	var l []goal
	add := func(node int, values []value) {
		for i, a := range v.atomsOf(v.inv) {
			for c, broken := range a.broken(values) {
				l = append(l, goal{api.Refutation{Path: slices.Clone(x.choices), Node: node, Atom: i, Case: c}, append(known[:len(known):len(known)], broken)})
			}
		}
	}
	if v.inv.Type == "" {
		add(0, x.now)
	}
	for i, o := range x.objects {
		if v.inv.Type == v.d.Types[o.typ].Name {
			add(i+1, o.now)
		}
	}
	return l
}

// broken returns, for each case, that an atom is not true for values.
func (a atom) broken(values []value) []constraint {
	left, right := a.left.of(values), a.right.of(values)
	if a.op == api.XEqual {
		return []constraint{equality(left, right, 1)[0], equality(left, right, 2)[0]}
	}
	return []constraint{ordered(a.op, left, right, false)}
}

// solve returns a cycle that refutes constraints, or, if there is none, values of the symbols that satisfy them.
func solve(symbols int, l []constraint) ([]int, []int) {
	values, by := make([]int, symbols), make([]int, symbols)
	last := -1
	for range symbols + 1 {
		last = -1
		for i, c := range l {
			if n := values[c.right] + c.most; n < values[c.left] {
				values[c.left], by[c.left], last = n, i, c.left
			}
		}
		if last < 0 {
			break
		}
	}
	if last < 0 {
		for s := range values {
			if s != zero {
				values[s] -= values[zero]
			}
		}
		values[zero] = 0
		return nil, values
	}
	// Far enough back on the way to what changed last, all symbols are in a cycle.
	for range symbols {
		last = l[by[last]].right
	}
	var cycle []int
	for s := last; len(cycle) == 0 || s != last; s = l[by[s]].right {
		cycle = append(cycle, by[s])
	}
	return cycle, nil
}

// refutes reports whether a list of indices is a cycle of constraints whose sum is negative.
func refutes(l []constraint, cycle []int) bool {
	if len(cycle) == 0 || len(cycle) > api.MaxList {
		return false
	}
	sum := 0
	for k, i := range cycle {
		next := cycle[(k+1)%len(cycle)]
		if i < 0 || i >= len(l) || next < 0 || next >= len(l) || l[i].right != l[next].left {
			return false
		}
		sum += l[i].most
	}
	return sum < 0
}
