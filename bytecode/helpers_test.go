package bytecode_test

import (
	"reflect"
	"slices"
	"testing"

	"heartwood/api"
	"heartwood/bytecode"
	"heartwood/parser"
)

func parse(t *testing.T, s string) api.Desc {
	t.Helper()
	d, place, err := parser.Parse(s)
	if err != api.OK {
		t.Fatal(s, place, err)
	}
	return d
}

func read(t *testing.T, s string) api.Code {
	t.Helper()
	c, err := bytecode.Parse(s)
	if err != api.OK {
		t.Fatal(s, err)
	}
	return c
}

func clone(c api.Code) api.Code {
	r := api.Code{Fields: append([]int{}, c.Fields...), Globals: c.Globals, Funcs: []api.Func{}}
	for _, f := range c.Funcs {
		f.Code = append([]api.Instr{}, f.Code...)
		r.Funcs = append(r.Funcs, f)
	}
	return r
}

func same(a, b api.Code) bool { return reflect.DeepEqual(clone(a), clone(b)) }

func isZero(c api.Code) bool { return len(c.Fields) == 0 && c.Globals == 0 && len(c.Funcs) == 0 }

func in(op, a int) api.Instr { return api.Instr{Op: op, A: a} }

// code is a code with one function with three local variables, one of them a parameter, and a second function.
func code(result bool, l ...api.Instr) api.Code {
	return api.Code{Fields: []int{2, 0}, Globals: 3, Funcs: []api.Func{{Name: "p", Params: 1, Locals: 3, Result: result, Code: l}, {Name: "q", Params: 2, Locals: 2, Result: true, Code: []api.Instr{in(api.ILocal, 1), in(api.IReturn, 0)}}, {Name: "r", Code: []api.Instr{in(api.IReturn, 0)}}}}
}

func withOperand(op int) bool {
	return op <= api.ICall || op == api.IJump || op == api.IJumpFalse
}

// pops and pushes, from the chapter's list.
func effect(c api.Code, f api.Func, x api.Instr) (int, int) {
	n := func(b bool) int {
		if b {
			return 1
		}
		return 0
	}
	switch x.Op {
	case api.IConst, api.ILocal, api.IGlobal, api.INew:
		return 0, 1
	case api.ISetLocal, api.ISetGlobal, api.IJumpFalse, api.IPop:
		return 1, 0
	case api.IField, api.INeg, api.INot, api.ILog:
		return 1, 1
	case api.ISetField:
		return 2, 0
	case api.ICall:
		return c.Funcs[x.A].Params, n(c.Funcs[x.A].Result)
	case api.IReturn:
		return n(f.Result), 0
	case api.IJump, api.ITick:
		return 0, 0
	case api.IDup:
		return 1, 2
	}
	return 2, 1
}

// oracle finds heights by looking through all instructions again and again.
func oracle(c api.Code, f api.Func) ([]int, int, api.Errno) {
	l := slices.Repeat([]int{-1}, len(f.Code))
	l[0] = 0
	looked := make([]bool, len(f.Code))
	for {
		i := 0
		for i < len(l) && (l[i] < 0 || looked[i]) {
			i++
		}
		if i == len(l) {
			return l, 0, api.OK
		}
		looked[i] = true
		x := f.Code[i]
		pops, pushes := effect(c, f, x)
		if l[i] < pops {
			return nil, i, api.ErrEmpty
		}
		if x.Op == api.IReturn {
			if l[i] > pops {
				return nil, i, api.ErrSize
			}
			continue
		}
		if x.Op != api.IJump && i+1 == len(l) {
			return nil, i, api.ErrEnd
		}
		var next []int
		if x.Op != api.IJump {
			next = append(next, i+1)
		}
		if x.Op == api.IJump || x.Op == api.IJumpFalse {
			next = append(next, x.A)
		}
		for _, k := range next {
			if l[k] >= 0 && l[k] != l[i]-pops+pushes {
				return nil, i, api.ErrState
			}
			l[k] = l[i] - pops + pushes
		}
	}
}

// numbers yields numbers by a fixed rule.
type numbers int

func (n *numbers) below(limit int) int {
	*n = *n * 48271 % 2147483647
	return int(*n) % limit
}

func (n *numbers) instr(length int) api.Instr {
	ops := []int{api.IConst, api.IConst, api.ILocal, api.IJump, api.IJumpFalse, api.IAdd, api.IReturn, api.IPop, api.IDup, api.ICall, api.ITick, api.INot, api.ISetLocal, api.IField, api.ISetField}
	op := ops[n.below(len(ops))]
	switch op {
	case api.IJump, api.IJumpFalse:
		return in(op, n.below(length))
	case api.ICall, api.ILocal, api.ISetLocal:
		return in(op, n.below(3))
	}
	return in(op, 0)
}
