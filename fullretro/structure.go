package fullretro

import (
	"heartwood/api"
	"heartwood/eval"
	"heartwood/heap"
	"heartwood/library"
	"heartwood/model"
)

// fuel is what the call of an operation may use.
const fuel = 100000

// structure is a structure of the library.
type structure struct {
	name string
	kind int
	d    api.Desc
}

// built is what is built of some operations: the memory of the structure, and beside it the state of the model. Neither
// is ever changed, so that they can be kept.
type built struct {
	*api.Mem
	api.State
}

func load(name string) (structure, api.Errno) {
	d, err := library.Load(name)
	if err != api.OK {
		return structure{}, err
	}
	kind, err := library.Kind(name)
	return structure{name, kind, d}, err
}

// start returns what is built of no operations.
func (s structure) start() built {
	m, _ := heap.New(s.d)
	state, _ := model.New(s.kind)
	return built{&m, state}
}

// do does an operation that the structure has; one that fails changes nothing.
func (s structure) do(b built, o api.Op) (built, api.Res) {
	c, _ := library.Bind(s.name, o)
	x, after, _ := eval.Run(s.d, *b.Mem, c, fuel)
	r, _ := library.Result(s.name, o, x)
	if r.Err != api.OK {
		return b, r
	}
	after, _ = heap.Canonical(s.d, after)
	state, _, _ := model.Apply(b.State, o)
	return built{&after, state}, r
}
