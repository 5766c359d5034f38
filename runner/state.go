package runner

import (
	"slices"

	"heartwood/api"
	"heartwood/ast"
	"heartwood/eval"
	"heartwood/heap"
	"heartwood/library"
	"heartwood/model"
)

// maxElements is how many elements a state has at most.
const maxElements = 500

// State returns the state of an instance.
func State(i api.Instance) (api.State, api.Errno) {
	d, ok := described(i)
	if !ok {
		return api.State{}, api.ErrArg
	}
	kind, _ := library.Kind(i.Name)
	var rows [][]int
	switch kind {
	case api.Dict:
		rows, ok = held(d, i.Mem, "k", "v")
	case api.Heap:
		rows, ok = held(d, i.Mem, "k")
	case api.Seq:
		rows, ok = elements(asker(d, i))
	case api.Sets:
		rows, ok = classes(asker(d, i))
	}
	s := api.State{Kind: kind, Rows: rows}
	if !ok || !model.Valid(s) {
		return api.State{}, api.ErrBroken
	}
	return s, api.OK
}

// held returns a row of fields for each node that is reached from the first global variable, ascending.
func held(d api.Desc, m api.Mem, fields ...string) ([][]int, bool) {
	m.Globals = append(slices.Clone(m.Globals[:1]), make([]int, len(m.Globals)-1)...)
	reached, err := heap.Reachable(d, m)
	if err != api.OK {
		return nil, false
	}
	var rows [][]int
	for _, n := range reached {
		x := m.Nodes[n-1]
		var row []int
		for _, name := range fields {
			k, err := ast.FieldIndex(d.Types[x.Type], name)
			if err != api.OK {
				return nil, false
			}
			row = append(row, x.F[k])
		}
		rows = append(rows, row)
	}
	slices.SortFunc(rows, slices.Compare[[]int])
	return rows, true
}

// ask does operations, one after the other, and returns their results; it keeps what they leave.
type ask func(l ...api.Op) []api.Res

// asker returns a function that does operations on a copy of an instance. Many of them are done at once, because that
// takes less time than one by one, and no numbers of nodes matter to them.
func asker(d api.Desc, i api.Instance) ask {
	m := i.Mem
	return func(l ...api.Op) []api.Res {
		var calls []api.Call
		for _, o := range l {
			c, _ := library.Bind(i.Name, o)
			calls = append(calls, c)
		}
		outcomes, after, _ := eval.Script(d, m, calls, fuel)
		m = after
		var results []api.Res
		for k, x := range outcomes {
			res, _ := library.Result(i.Name, l[k], x)
			results = append(results, res)
		}
		return results
	}
}

func op(code int, args ...int) api.Op { return api.Op{Code: code, Args: args} }

// elements returns the rows of a sequence.
func elements(do ask) ([][]int, bool) {
	size := do(op(api.SeqSize))
	if len(size) == 0 || size[0].Err != api.OK || size[0].N > maxElements {
		return nil, false
	}
	var gets []api.Op
	for i := range size[0].N {
		gets = append(gets, op(api.SeqGet, i))
	}
	var rows [][]int
	for _, res := range do(gets...) {
		if res.Err != api.OK {
			return nil, false
		}
		rows = append(rows, []int{res.N})
	}
	return rows, len(rows) == len(gets)
}

// classes returns the rows of a partition.
func classes(do ask) ([][]int, bool) {
	n, ok := countElements(do)
	if !ok {
		return nil, false
	}
	var rows [][]int
	for e := range n {
		var asked []api.Op
		for _, row := range rows {
			asked = append(asked, op(api.SetsSame, row[0], e))
		}
		results := do(asked...)
		if len(results) != len(asked) || slices.ContainsFunc(results, func(r api.Res) bool { return r.Err != api.OK }) {
			return nil, false
		}
		at := slices.IndexFunc(results, func(r api.Res) bool { return r.N == 1 })
		if at < 0 {
			rows = append(rows, []int{e})
		} else {
			rows[at] = append(rows[at], e)
		}
	}
	return rows, true
}

// countElements returns how many of the elements 0, 1, .. have a size, and whether the next one fails as it must.
func countElements(do ask) (int, bool) {
	var sizes []api.Op
	for e := range maxElements + 1 {
		sizes = append(sizes, op(api.SetsSize, e))
	}
	for e, res := range do(sizes...) {
		if res.Err != api.OK {
			return e, res.Err == api.ErrNone
		}
	}
	return 0, false
}
