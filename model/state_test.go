package model_test

import (
	"slices"
	"testing"

	"heartwood/api"
	"heartwood/model"
)

// P3.1: New

func TestNew(t *testing.T) {
	for _, kind := range kinds() {
		s, err := model.New(kind)
		if err != api.OK || s.Kind != kind || len(s.Rows) != 0 || !model.Valid(s) {
			t.Errorf("New(%d) = %v %v", kind, s, err)
		}
	}
	for _, kind := range wrongKinds() {
		if s, err := model.New(kind); err != api.ErrArg || !isZeroState(s) {
			t.Errorf("New(%d) = %v %v", kind, s, err)
		}
	}
}

// P3.1: Valid

// rightStates returns valid states of all kinds, with the limits.
func rightStates() []api.State {
	const most, least = api.MaxKey, -api.MaxKey
	l := []api.State{
		state(api.Dict, []int{least, most}, []int{0, least}, []int{1, 0}, []int{most, 0}),
		state(api.Dict, []int{-2, 5}, []int{-1, 5}),
		state(api.Heap, []int{least}, []int{least}, []int{0}, []int{most}, []int{most}),
		state(api.Seq, []int{most}, []int{least}, []int{0}, []int{0}, []int{most}),
		state(api.Sets, []int{0}),
		state(api.Sets, []int{0, 3}, []int{1}, []int{2, 4, 5}),
		state(api.Sets, []int{0}, []int{1, 2, 3}, []int{4}),
		state(api.Sets, span(0, limit)),
		state(api.Sets, span(0, 200), span(200, limit)),
		state(api.Range, []int{least, least, most}, []int{least, most, least}, []int{0, 5, 0}, []int{0, 6, 0}, []int{1, 0, 0}, []int{most, most, most}),
		state(api.Text, []int{0, 255, 97, 97}),
		state(api.Text, []int{0}),
	}
	for _, kind := range kinds() {
		l = append(l, filled(kind, 0), filled(kind, 1), filled(kind, 2), filled(kind, 17), filled(kind, limit))
		l = append(l, api.State{Kind: kind, Rows: [][]int{}})
	}
	return l
}

func TestValid(t *testing.T) {
	for _, s := range rightStates() {
		before := clone(s)
		if !model.Valid(s) {
			t.Errorf("Valid(%v) = false", s)
		}
		if !same(s, before) {
			t.Errorf("Valid changes %v", before)
		}
	}
}

// wrongStates returns states that are not valid.
func wrongStates() map[string]api.State {
	const more, less = api.MaxKey + 1, -api.MaxKey - 1
	l := map[string]api.State{
		"a dictionary that does not ascend":  state(api.Dict, []int{2, 0}, []int{1, 0}),
		"a dictionary that descends late":    state(api.Dict, []int{1, 0}, []int{4, 0}, []int{3, 9}),
		"a key twice":                        state(api.Dict, []int{1, 0}, []int{2, 0}, []int{2, 1}),
		"a key without a value":              state(api.Dict, []int{1}),
		"a later key without a value":        state(api.Dict, []int{1, 1}, []int{2}),
		"an empty entry":                     state(api.Dict, []int{}),
		"an entry with three numbers":        state(api.Dict, []int{1, 2, 3}),
		"a great key":                        state(api.Dict, []int{more, 0}),
		"a small key":                        state(api.Dict, []int{less, 0}),
		"a great value":                      state(api.Dict, []int{0, more}),
		"a small value":                      state(api.Dict, []int{0, less}),
		"a heap that does not ascend":        state(api.Heap, []int{2}, []int{1}),
		"a heap that descends late":          state(api.Heap, []int{1}, []int{3}, []int{2}),
		"an empty priority":                  state(api.Heap, []int{1}, nil),
		"a priority with two numbers":        state(api.Heap, []int{1, 2}),
		"a great priority":                   state(api.Heap, []int{more}),
		"a small priority":                   state(api.Heap, []int{less}),
		"an empty element":                   state(api.Seq, nil),
		"an element with two numbers":        state(api.Seq, []int{1}, []int{1, 2}),
		"a great element":                    state(api.Seq, []int{more}),
		"a small element":                    state(api.Seq, []int{0}, []int{less}),
		"an empty class":                     state(api.Sets, []int{}),
		"an empty class after another one":   state(api.Sets, []int{0}, nil),
		"no element 0":                       state(api.Sets, []int{1}),
		"no element 1":                       state(api.Sets, []int{0, 2}),
		"an element in two classes":          state(api.Sets, []int{0, 1}, []int{1, 2}),
		"an element twice in a class":        state(api.Sets, []int{0, 0}, []int{1}),
		"a class that does not ascend":       state(api.Sets, []int{1, 0}),
		"a late class that does not ascend":  state(api.Sets, []int{0}, []int{2, 1}),
		"classes that do not ascend":         state(api.Sets, []int{1}, []int{0}),
		"classes that descend late":          state(api.Sets, []int{0}, []int{2}, []int{1}),
		"an element below 0":                 state(api.Sets, []int{-1, 0}),
		"501 elements in a class":            state(api.Sets, span(0, limit+1)),
		"501 elements in two classes":        state(api.Sets, span(0, 250), span(250, limit+1)),
		"points that do not ascend in x":     state(api.Range, []int{2, 1, 0}, []int{1, 2, 0}),
		"points that do not ascend in y":     state(api.Range, []int{1, 2, 0}, []int{1, 1, 5}),
		"a place twice":                      state(api.Range, []int{1, 1, 0}, []int{1, 1, 1}),
		"a point without a weight":           state(api.Range, []int{1, 1}),
		"a point with four numbers":          state(api.Range, []int{1, 1, 1, 1}),
		"a great x":                          state(api.Range, []int{more, 0, 0}),
		"a small y":                          state(api.Range, []int{0, less, 0}),
		"a great weight":                     state(api.Range, []int{0, 0, more}),
		"a small weight":                     state(api.Range, []int{0, 0, less}),
		"an empty row of characters":         state(api.Text, []int{}),
		"two rows of characters":             state(api.Text, []int{1}, []int{2}),
		"a second row without characters":    state(api.Text, []int{1}, nil),
		"a great character":                  state(api.Text, []int{1, 256}),
		"a character below 0":                state(api.Text, []int{-1, 1}),
		"a dictionary with very great rows":  state(api.Dict, make([]int, 1<<20)),
		"very many rows":                     {Kind: api.Dict, Rows: make([][]int, 1<<20)},
		"very many classes":                  {Kind: api.Sets, Rows: make([][]int, 1<<20)},
		"a class with very many elements":    state(api.Sets, make([]int, 1<<20)),
		"a text with very many characters":   state(api.Text, make([]int, 1<<20)),
		"the zero state":                     {},
		"a state of no kind with an element": {Kind: 7, Rows: [][]int{{1}}},
	}
	for _, kind := range kinds() {
		l["501 in kind "+codes(kind)[0].word] = filled(kind, limit+1)
		l["far more in kind "+codes(kind)[0].word] = filled(kind, 3*limit)
	}
	return l
}

func TestWrongStates(t *testing.T) {
	for name, s := range wrongStates() {
		if model.Valid(s) {
			t.Errorf("%s: Valid = true", name)
		}
	}
	for _, kind := range wrongKinds() {
		if model.Valid(api.State{Kind: kind}) || model.Valid(state(kind, []int{0})) || model.Valid(state(kind, []int{0, 0})) {
			t.Errorf("the kind %d is valid", kind)
		}
	}
}

// All states of sets with few elements in few rows are looked at: those are valid that the oracle has.
func TestValidPartitions(t *testing.T) {
	var rows [][]int
	for a := -1; a <= 3; a++ {
		rows = append(rows, []int{a})
		for b := -1; b <= 3; b++ {
			rows = append(rows, []int{a, b})
		}
	}
	for _, x := range rows {
		for _, y := range rows {
			s := state(api.Sets, x, y)
			all := slices.Sorted(slices.Values(slices.Concat(x, y)))
			right := slices.Equal(all, span(0, len(all))) && slices.IsSorted(x) && slices.IsSorted(y) && x[0] < y[0]
			if model.Valid(s) != right {
				t.Errorf("Valid(%v) = %v", s, !right)
			}
		}
	}
}

// P3.1: ValidOp

// rightOps returns valid operations of a kind: all codes, with the limits of the arguments.
func rightOps(kind int) []api.Op {
	var l []api.Op
	for i, d := range codes(kind) {
		switch d.args {
		case 0:
			l = append(l, op(i+1), api.Op{Code: i + 1, Args: []int{}})
		case manyArgs:
			l = append(l, op(i+1, 0), op(i+1, 255), op(i+1, 97, 0, 255, 97), op(i+1, repeated(api.MaxArgs, 255)...), op(i+1, span(0, api.MaxArgs)...))
		default:
			for _, n := range []int{0, 1, -1, 7, 256, api.MaxKey, -api.MaxKey} {
				l = append(l, op(i+1, repeated(d.args, n)...))
			}
		}
	}
	return l
}

// wrongOps returns operations that are not valid for a kind.
func wrongOps(kind int) []api.Op {
	var l []api.Op
	for _, code := range wrongCodes(kind) {
		for n := range 5 {
			l = append(l, op(code, repeated(n, 1)...))
		}
	}
	for i, d := range codes(kind) {
		if d.args == manyArgs {
			l = append(l, op(i+1), op(i+1, repeated(api.MaxArgs+1, 1)...), op(i+1, repeated(1<<20, 1)...), op(i+1, -1), op(i+1, 256), op(i+1, 5, 256), op(i+1, 5, 5, -1), op(i+1, api.MaxKey))
			continue
		}
		for n := range 8 {
			if n != d.args {
				l = append(l, op(i+1, repeated(n, 1)...))
			}
		}
		l = append(l, op(i+1, make([]int, 1<<20)...))
		for k := range d.args {
			for _, n := range []int{api.MaxKey + 1, -api.MaxKey - 1, 1 << 40, -1 << 62} {
				args := repeated(d.args, 1)
				args[k] = n
				l = append(l, op(i+1, args...))
			}
		}
	}
	return l
}

func TestValidOp(t *testing.T) {
	for _, kind := range kinds() {
		for _, o := range rightOps(kind) {
			if !model.ValidOp(kind, o) {
				t.Errorf("ValidOp(%d, %v) = false", kind, o)
			}
			for _, wrong := range wrongKinds() {
				if model.ValidOp(wrong, o) {
					t.Errorf("ValidOp(%d, %v) = true", wrong, o)
				}
			}
		}
		for _, o := range wrongOps(kind) {
			if model.ValidOp(kind, o) {
				t.Errorf("ValidOp(%d, %.100v) = true", kind, o)
			}
		}
	}
}

// P3.1: Same

func TestSame(t *testing.T) {
	wrong := []api.State{{}, {Kind: 7}, {Kind: -1, Rows: [][]int{nil}}, state(api.Dict, []int{2}, []int{1}), state(api.Dict, []int{1}, []int{2}), state(api.Text, nil, nil), state(api.Heap, make([]int, 1000))}
	l := slices.Concat(rightStates(), wrong)
	for _, a := range l {
		for _, b := range l {
			if got := model.Same(a, b); got != same(a, b) {
				t.Errorf("Same(%.100v, %.100v) = %v", a, b, got)
			}
		}
		if !model.Same(a, clone(a)) {
			t.Errorf("%.100v is not the same as a copy of it", a)
		}
	}
	for _, c := range []struct {
		a, b api.State
		want bool
	}{
		{state(api.Heap, []int{1}), state(api.Seq, []int{1}), false},
		{state(api.Heap), state(api.Seq), false},
		{state(api.Seq, []int{1}, []int{2}), state(api.Seq, []int{1, 2}), false},
		{state(api.Seq, []int{1}, []int{2}), state(api.Seq, []int{1}), false},
		{state(api.Seq, []int{1}), state(api.Seq, []int{1}, []int{2}), false},
		{state(api.Dict, []int{1, 2}), state(api.Dict, []int{1, 3}), false},
		{state(api.Dict, []int{1, 2}), state(api.Dict, []int{1, 2, 3}), false},
		{api.State{Kind: 3}, api.State{Kind: 3, Rows: [][]int{}}, true},
		{state(9, nil), state(9, []int{}), true},
		{state(9), state(9, nil), false},
	} {
		if model.Same(c.a, c.b) != c.want || model.Same(c.b, c.a) != c.want {
			t.Errorf("Same(%v, %v) = %v", c.a, c.b, !c.want)
		}
	}
}

// P3.2

func TestIsUpdate(t *testing.T) {
	for _, kind := range kinds() {
		for i, d := range codes(kind) {
			if update, err := model.IsUpdate(kind, i+1); update != d.update || err != api.OK {
				t.Errorf("IsUpdate(%d, %s) = %v %v", kind, d.word, update, err)
			}
		}
		for _, code := range wrongCodes(kind) {
			if update, err := model.IsUpdate(kind, code); update || err != api.ErrRange {
				t.Errorf("IsUpdate(%d, %d) = %v %v", kind, code, update, err)
			}
		}
	}
	for _, kind := range wrongKinds() {
		for code := -1; code <= 10; code++ {
			if update, err := model.IsUpdate(kind, code); update || err != api.ErrArg {
				t.Errorf("IsUpdate(%d, %d) = %v %v", kind, code, update, err)
			}
		}
	}
}
