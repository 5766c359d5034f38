package machine

import (
	"slices"

	"heartwood/api"
	"heartwood/bytecode"
)

// IsSound reports whether a code is sound.
func IsSound(c api.Code) bool {
	_, _, err := bytecode.Check(c)
	return err == api.OK
}

// Check returns the error of a call that is not right for a code.
func Check(c api.Code, call api.Call) api.Errno {
	f := find(c, call.Proc)
	switch {
	case f < 0:
		return api.ErrName
	case len(call.Args) != c.Funcs[f].Params:
		return api.ErrSize
	case !AreValues(call.Args):
		return api.ErrType
	}
	return api.OK
}

func find(c api.Code, proc string) int {
	return slices.IndexFunc(c.Funcs, func(f api.Func) bool { return f.Name == proc })
}

// CheckThreads returns an error unless threads with calls can begin on a memory.
func CheckThreads(c api.Code, m api.Mem, calls [][]api.Call, fuel int) api.Errno {
	switch {
	case !IsSound(c) || !Fits(c, m):
		return api.ErrArg
	case fuel < 0 || fuel > api.MaxFuel:
		return api.ErrRange
	case len(calls) == 0:
		return api.ErrSize
	case len(calls) > api.MaxThreads || slices.ContainsFunc(calls, func(l []api.Call) bool { return len(l) > api.MaxOps }):
		return api.ErrFull
	}
	for _, x := range slices.Concat(calls...) {
		if err := Check(c, x); err != api.OK {
			return err
		}
	}
	return api.OK
}

// AreTimes reports whether calls begin and end one after the other, before a step. The last one may not have ended.
func AreTimes(begins, ends []int, step int) bool {
	last := -1
	for i, begin := range begins {
		if begin <= last || begin >= step {
			return false
		}
		if last = begin; i < len(ends) {
			if ends[i] < begin || ends[i] >= step {
				return false
			}
			last = ends[i]
		}
	}
	return true
}

// IsValue reports whether a number can be a value.
func IsValue(n int) bool { return -api.MaxInt <= n && n <= api.MaxInt }

// AreValues reports whether all numbers can be values.
func AreValues(l []int) bool {
	return !slices.ContainsFunc(l, func(n int) bool { return !IsValue(n) })
}
