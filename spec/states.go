package spec

import (
	"slices"
	"strings"

	"heartwood/api"
	"heartwood/model"
	"heartwood/term"
)

// maxNumeral is the greatest number that has a numeral.
const maxNumeral = 12

// shape tells how the states of a kind are written: the sort, and the operations for a further row, and for no rows.
type shape struct{ sort, more, end string }

func shapeOf(kind int) shape {
	switch kind {
	case api.Dict:
		return shape{"dict", "entry", "empty"}
	case api.Heap:
		return shape{"heap", "item", "empty"}
	case api.Seq:
		return shape{"seq", "cons", "empty"}
	case api.Sets:
		return shape{"sets", "class", "empty"}
	case api.Range:
		return shape{"points", "more", "empty"}
	}
	return shape{"text", "char", "empty"}
}

// members is the shape of the elements of a class.
func members() shape { return shape{"list", "cons", "end"} }

func apply(name string, parts ...api.Term) api.Term { return api.Term{Name: name, L: parts} }

func numeral(n int) api.Term {
	t := apply("zero")
	for range n {
		t = apply("s", t)
	}
	return t
}

func numerals(l []int) []api.Term {
	var r []api.Term
	for _, n := range l {
		r = append(r, numeral(n))
	}
	return r
}

func haveNumerals(l []int) bool {
	return !slices.ContainsFunc(l, func(n int) bool { return n < 0 || n > maxNumeral })
}

// chain returns the term whose rows have the given parts, before the rest.
func chain(s shape, rows [][]api.Term) api.Term {
	t := apply(s.end)
	for _, row := range slices.Backward(rows) {
		t = apply(s.more, append(row, t)...)
	}
	return t
}

// singles returns a row of one numeral for each number.
func singles(l []int) [][]api.Term {
	var rows [][]api.Term
	for _, n := range l {
		rows = append(rows, []api.Term{numeral(n)})
	}
	return rows
}

// Encode returns the term of a state.
func Encode(s api.State) (api.Term, api.Errno) {
	if !model.Valid(s) {
		return api.Term{}, api.ErrArg
	}
	if !haveNumerals(slices.Concat(s.Rows...)) {
		return api.Term{}, api.ErrRange
	}
	t := chain(shapeOf(s.Kind), parts(s))
	if term.Size(t) == 0 {
		return api.Term{}, api.ErrFull
	}
	return t, api.OK
}

// parts returns the parts of the operation of each row.
func parts(s api.State) [][]api.Term {
	if s.Kind == api.Text {
		return singles(slices.Concat(s.Rows...))
	}
	var l [][]api.Term
	for _, row := range s.Rows {
		switch s.Kind {
		case api.Sets:
			l = append(l, []api.Term{chain(members(), singles(row))})
		case api.Range:
			l = append(l, []api.Term{apply("pt", numerals(row)...)})
		default:
			l = append(l, numerals(row))
		}
	}
	return l
}

// Decode returns the state with a term.
func Decode(kind int, t api.Term) (api.State, api.Errno) {
	builtin, err := Builtin(kind)
	if err != api.OK || !term.Valid(builtin.Sig, t) {
		return api.State{}, api.ErrArg
	}
	rows, ok := rowsOf(kind, t)
	s := api.State{Kind: kind, Rows: rows}
	if !ok || !model.Valid(s) {
		return api.State{}, api.ErrShape
	}
	return s, api.OK
}

// rowsOf returns the rows of a state, and whether t, which is valid, is the term of some rows.
func rowsOf(kind int, t api.Term) ([][]int, bool) {
	links, ok := linksOf(shapeOf(kind), t)
	var rows [][]int
	for _, link := range links {
		row, good := link, true
		switch kind {
		case api.Sets:
			row, good = chained(link[0])
		case api.Range:
			row, good = link[0].L, isOperation(link[0], "pt")
		}
		numbers, right := numbersOf(row)
		if !good || !right {
			return nil, false
		}
		rows = append(rows, numbers)
	}
	if kind == api.Text && len(rows) > 0 {
		rows = [][]int{slices.Concat(rows...)}
	}
	return rows, ok
}

// chained returns the elements of a class.
func chained(t api.Term) ([]api.Term, bool) {
	links, ok := linksOf(members(), t)
	return slices.Concat(links...), ok
}

// linksOf returns the parts of each operation of a chain before its rest, and whether it ends as it must.
func linksOf(s shape, t api.Term) ([][]api.Term, bool) {
	var l [][]api.Term
	for isOperation(t, s.more) {
		last := len(t.L) - 1
		l = append(l, t.L[:last])
		t = t.L[last]
	}
	return l, isOperation(t, s.end)
}

func isOperation(t api.Term, name string) bool { return !isVariable(t) && t.Name == name }

func numbersOf(l []api.Term) ([]int, bool) {
	var r []int
	for _, t := range l {
		n := 0
		for ; isOperation(t, "s"); t = t.L[0] {
			n++
		}
		if n > maxNumeral || !isOperation(t, "zero") {
			return nil, false
		}
		r = append(r, n)
	}
	return r, true
}

// Query returns the term of an operation applied to a term.
func Query(kind int, t api.Term, o api.Op) (api.Term, api.Errno) {
	builtin, err := Builtin(kind)
	if err != api.OK || !model.ValidOp(kind, o) {
		return api.Term{}, api.ErrArg
	}
	if sort, err := term.Sort(builtin.Sig, t); err != api.OK || sort != shapeOf(kind).sort {
		return api.Term{}, api.ErrArg
	}
	if !haveNumerals(o.Args) {
		return api.Term{}, api.ErrRange
	}
	text, _ := model.Text(kind, o)
	word, _, _ := strings.Cut(text, " ")
	if kind == api.Heap && o.Code == api.HeapMin {
		word = "least"
	}
	r, err := term.At(apply(word, append([]api.Term{t}, arguments(kind, o)...)...), nil)
	if err != api.OK {
		return api.Term{}, api.ErrFull
	}
	return r, api.OK
}

// arguments returns the parts of the term of an operation after that of the state.
func arguments(kind int, o api.Op) []api.Term {
	l := numerals(o.Args)
	switch {
	case len(l) == 0:
		return nil
	case kind == api.Text:
		return []api.Term{chain(shapeOf(kind), singles(o.Args))}
	case kind != api.Range:
		return l
	case o.Code == api.RangeAdd:
		return []api.Term{apply("pt", l...)}
	case o.Code == api.RangeRemove:
		return []api.Term{apply("pt", append(l, numeral(0))...)}
	}
	return []api.Term{apply("rect", l...)}
}
