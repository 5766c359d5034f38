package equivalence

import (
	"slices"

	"heartwood/api"
	"heartwood/eval"
	"heartwood/heap"
	"heartwood/library"
	"heartwood/typecheck"
)

// testFuel is what the calls of a description that is tested may use.
const testFuel = 1000

func isSound(d api.Desc) bool {
	_, _, err := typecheck.Check(d)
	return err == api.OK
}

// Test reports whether a description has the results of the model, in place of a structure, and returns the first
// difference.
func Test(d api.Desc, name string, l []api.Op) (bool, api.Difference, api.Errno) {
	if !isSound(d) {
		return false, api.Difference{}, api.ErrArg
	}
	kind, err := library.Kind(name)
	switch {
	case err != api.OK:
		return false, api.Difference{}, err
	case !areValid(kind, l):
		return false, api.Difference{}, api.ErrArg
	case len(l) > maxScript:
		return false, api.Difference{}, api.ErrFull
	case !has(name, l):
		return false, api.Difference{}, api.ErrNone
	}
	return compare(d, name, kind, l)
}

// compare does the operations of a script that the structure has by a description and by the model.
func compare(d api.Desc, name string, kind int, l []api.Op) (bool, api.Difference, api.Errno) {
	m, _ := heap.New(d)
	do := modelOf(kind)
	for i, o := range l {
		c, _ := library.Bind(name, o)
		x, after, err := eval.Run(d, m, c, testFuel)
		if err != api.OK {
			return false, api.Difference{}, err
		}
		if x.Fault == api.OK {
			m = after
		}
		got, _ := library.Result(name, o, x)
		if want := do(o); !sameResult(want, got) {
			return false, api.Difference{At: i, Want: want, Got: got}, api.OK
		}
	}
	return true, api.Difference{}, api.OK
}

// Shrink returns a script with a difference, without operations that it does not need, and its first difference.
func Shrink(d api.Desc, name string, l []api.Op) ([]api.Op, api.Difference, api.Errno) {
	same, difference, err := Test(d, name, l)
	if err != api.OK {
		return nil, api.Difference{}, err
	}
	if same {
		return nil, api.Difference{}, api.ErrNone
	}
	left := slices.Clone(l)
	differs := func(l []api.Op) bool {
		same, found, err := Test(d, name, l)
		if err != api.OK || same {
			return false
		}
		left, difference = l, found
		return true
	}
	for before := len(left) + 1; len(left) < before; {
		before = len(left)
		for i := 0; i < len(left); {
			if !differs(slices.Delete(slices.Clone(left), i, i+1)) {
				i++
			}
		}
	}
	for i, o := range left {
		left[i].Args = slices.Clone(o.Args)
	}
	return left, difference, api.OK
}
