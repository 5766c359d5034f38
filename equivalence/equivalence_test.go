package equivalence_test

import (
	"slices"
	"testing"

	"heartwood/api"
	"heartwood/bytecode"
	"heartwood/equivalence"
	"heartwood/eval"
	"heartwood/external"
	"heartwood/heap"
	"heartwood/library"
	"heartwood/model"
	"heartwood/stm"
)

// numbers yields numbers by a fixed rule.
type numbers int

func (n *numbers) below(limit int) int {
	*n = *n * 48271 % 2147483647
	return int(*n) % limit
}

func op(code int, args ...int) api.Op { return api.Op{Code: code, Args: args} }

func codes(kind int) int { return []int{0, 8, 4, 7, 5, 5, 4}[kind] }

// op returns a random operation of a kind, with arguments that often mean something.
func (n *numbers) op(kind int) api.Op {
	for {
		o := api.Op{Code: 1 + n.below(codes(kind))}
		if n.below(3) == 0 {
			o.Code = 1
		}
		for range n.below(5) {
			o.Args = append(o.Args, n.below(14)-1)
		}
		if model.ValidOp(kind, o) {
			return o
		}
	}
}

// script returns a random script of operations that a structure has, or of all, if it has no name.
func (n *numbers) script(kind int, base string, size int) []api.Op {
	var l []api.Op
	for len(l) < size {
		o := n.op(kind)
		if _, err := library.Bind(base, o); base == "" || err == api.OK {
			l = append(l, o)
		}
	}
	return l
}

func modelResults(kind int, l []api.Op) []api.Res {
	s, _ := model.New(kind)
	_, results, _ := model.Run(s, l)
	return results
}

func sameRes(a, b api.Res) bool {
	return a.Err == b.Err && a.N == b.N && slices.Equal(a.L, b.L)
}

func native(kind int) string {
	return []string{"", "btree", "softheap", "fingertree", "forest", "rangetree", "suffixindex"}[kind]
}

func ways() []string {
	return []string{"plain", "compiled", "guarded", "persistent", "rollback", "confluent", "external", "stm"}
}

// P54.1
func TestVariants(t *testing.T) {
	for kind := 1; kind <= 6; kind++ {
		want := []api.Variant{{Name: "model"}, {Name: native(kind)}}
		if kind == api.Dict {
			want[1].N = 4
		}
		for _, base := range library.Names() {
			if k, _ := library.Kind(base); k != kind {
				continue
			}
			for _, way := range ways() {
				v := api.Variant{Name: way, Base: base}
				if way == "external" {
					v.N = 4
				}
				want = append(want, v)
			}
		}
		l, err := equivalence.Variants(kind)
		if !slices.Equal(l, want) || err != api.OK {
			t.Error(kind, l, err)
		}
		for _, v := range l {
			if !equivalence.Valid(kind, v) {
				t.Error(kind, v)
			}
			for other := 0; other <= 7; other++ {
				if other != kind && v.Name != "model" && equivalence.Valid(other, v) {
					t.Error(other, v)
				}
			}
		}
	}
	if l, _ := equivalence.Variants(api.Dict); len(l) != 42 {
		t.Error(len(l))
	}
	for _, kind := range []int{0, 7, -1, 1 << 62} {
		if l, err := equivalence.Variants(kind); l != nil || err != api.ErrArg || equivalence.Valid(kind, api.Variant{Name: "model"}) || equivalence.Valid(kind, api.Variant{}) {
			t.Error(kind, l, err)
		}
	}
}

func TestValid(t *testing.T) {
	for _, x := range []struct {
		kind int
		v    api.Variant
		want bool
	}{
		{api.Dict, api.Variant{Name: "btree", N: 3}, true}, {api.Dict, api.Variant{Name: "btree", N: 64}, true}, {api.Dict, api.Variant{Name: "btree", N: 2}, false}, {api.Dict, api.Variant{Name: "btree", N: 65}, false}, {api.Dict, api.Variant{Name: "btree"}, false}, {api.Dict, api.Variant{Name: "btree", Base: "list", N: 4}, false},
		{api.Dict, api.Variant{Name: "model", N: 1}, false}, {api.Dict, api.Variant{Name: "model", Base: "list"}, false}, {api.Dict, api.Variant{Name: "softheap"}, false}, {api.Dict, api.Variant{}, false}, {api.Heap, api.Variant{Name: "softheap", N: 20}, false}, {api.Heap, api.Variant{Name: "softheap"}, true}, {api.Text, api.Variant{Name: "suffixindex", N: -1}, false},
		{api.Dict, api.Variant{Name: "plain"}, false}, {api.Dict, api.Variant{Name: "plain", Base: "list", N: 1}, false}, {api.Dict, api.Variant{Name: "plain", Base: "leftist"}, false}, {api.Heap, api.Variant{Name: "plain", Base: "leftist"}, true}, {api.Dict, api.Variant{Name: "plain", Base: "nope"}, false}, {api.Dict, api.Variant{Name: "nope", Base: "list"}, false}, {api.Dict, api.Variant{Base: "list"}, false},
		{api.Dict, api.Variant{Name: "external", Base: "list", N: 1}, true}, {api.Dict, api.Variant{Name: "external", Base: "list", N: api.MaxArgs}, true}, {api.Dict, api.Variant{Name: "external", Base: "list"}, false}, {api.Dict, api.Variant{Name: "external", Base: "list", N: api.MaxArgs + 1}, false}, {api.Dict, api.Variant{Name: "external", N: 4}, false}, {api.Range, api.Variant{Name: "plain", Base: "list"}, false},
	} {
		if equivalence.Valid(x.kind, x.v) != x.want {
			t.Error(x)
		}
		if r, c, err := equivalence.Run(x.kind, x.v, nil); r != nil || c != nil || (err == api.OK) != x.want || err != api.OK && err != api.ErrArg {
			t.Error(x, r, c, err)
		}
	}
}

// P54.2, P54.3, and P54.7: all variants agree with the model.
func TestAgreement(t *testing.T) {
	for kind := 1; kind <= 6; kind++ {
		l, _ := equivalence.Variants(kind)
		if kind == api.Dict {
			l = append(l, api.Variant{Name: "btree", N: 3}, api.Variant{Name: "btree", N: 17}, api.Variant{Name: "external", Base: "treap", N: 1}, api.Variant{Name: "external", Base: "list", N: 64})
		}
		n := numbers(kind)
		for _, v := range l {
			for _, size := range []int{0, 1, 40, 100} {
				script := n.script(kind, v.Base, size)
				results, costs, err := equivalence.Run(kind, v, script)
				if err != api.OK || !slices.EqualFunc(results, modelResults(kind, script), sameRes) || len(costs) != len(script) {
					t.Fatal(kind, v, script, results, err)
				}
				if v.Base == "" && slices.ContainsFunc(costs, func(c api.Cost) bool { return c != api.Cost{} }) {
					t.Fatal(kind, v, costs)
				}
				if same, difference, err := equivalence.Compare(kind, v, script); !same || difference.At != 0 || !sameRes(difference.Want, difference.Got) || err != api.OK {
					t.Fatal(kind, v, same, difference, err)
				}
			}
		}
	}
}

// Longer contents: 100 insertions, and what is asked of a text with as many characters as there may be.
func TestFullContents(t *testing.T) {
	for kind := 1; kind <= 6; kind++ {
		l, _ := equivalence.Variants(kind)
		var scripts [][]api.Op
		for _, backwards := range []bool{false, true} {
			var grow []api.Op
			for i := range 80 {
				k := i
				if backwards {
					k = 80 - i
				}
				o := map[int]api.Op{api.Dict: op(api.DictPut, k, i), api.Heap: op(api.HeapInsert, k), api.Seq: op(api.SeqInsert, i*i%(i+1), k), api.Sets: op(api.SetsMake), api.Range: op(api.RangeAdd, k, i%7, 2), api.Text: op(api.TextAppend, slices.Repeat([]int{k, 255, 0}, 4)...)}[kind]
				grow = append(grow, o)
			}
			n := numbers(kind)
			for range 20 {
				grow = append(grow, n.op(kind))
			}
			scripts = append(scripts, grow)
		}
		for _, v := range l {
			for _, script := range scripts {
				script = slices.DeleteFunc(slices.Clone(script), func(o api.Op) bool {
					_, err := library.Bind(v.Base, o)
					return v.Base != "" && err != api.OK
				})
				if same, difference, err := equivalence.Compare(kind, v, script); !same || err != api.OK {
					t.Fatal(kind, v, difference, err)
				}
			}
		}
	}
}

// What is asked of elements that are next to those that there are, and a text with as many characters as there may be.
func TestNativeLimits(t *testing.T) {
	sets := []api.Op{op(api.SetsSize, 0), op(api.SetsMake), op(api.SetsSize, 0), op(api.SetsSize, 1), op(api.SetsUnion, 0, 1), op(api.SetsUnion, 1, 0), op(api.SetsSame, -1, 0), op(api.SetsMake), op(api.SetsSame, 1, 0), op(api.SetsUnion, 1, 0), op(api.SetsUnion, 0, 1), op(api.SetsCount)}
	if same, difference, err := equivalence.Compare(api.Sets, api.Variant{Name: "forest"}, sets); !same || err != api.OK {
		t.Error(difference, err)
	}
	var texts []api.Op
	for range 7 {
		texts = append(texts, op(api.TextAppend, slices.Repeat([]int{7}, 64)...))
	}
	texts = append(texts, op(api.TextAppend, slices.Repeat([]int{8}, 53)...), op(api.TextAppend, slices.Repeat([]int{8}, 52)...), op(api.TextSize), op(api.TextAppend, 9), op(api.TextCount, 8, 8), op(api.TextFind, 9))
	if same, difference, err := equivalence.Compare(api.Text, api.Variant{Name: "suffixindex"}, texts); !same || err != api.OK {
		t.Error(difference, err)
	}
}

// costs computes the costs of a script by the interpreter, or in blocks.
func costs(t *testing.T, base string, size int, l []api.Op) []api.Cost {
	t.Helper()
	d, _ := library.Load(base)
	m, _ := heap.New(d)
	var place []int
	var all []api.Cost
	for _, o := range l {
		c, _ := library.Bind(base, o)
		var x api.Outcome
		after := m
		if size > 0 {
			x, after, place, _ = external.Run(d, m, place, size, 8, c, 100000)
		} else {
			x, after, _ = eval.Run(d, m, c, 100000)
		}
		if x.Fault != api.OK {
			t.Fatal(x)
		}
		m = after
		all = append(all, x.Cost)
	}
	return all
}

// The costs are those of the outcomes.
func TestCosts(t *testing.T) {
	for _, base := range library.Names() {
		kind, _ := library.Kind(base)
		n := numbers(len(base))
		script := n.script(kind, base, 60)
		for _, way := range ways() {
			v := api.Variant{Name: way, Base: base}
			if way == "external" {
				v.N = 3
			}
			_, got, err := equivalence.Run(kind, v, script)
			if want := costs(t, base, v.N, script); !slices.Equal(got, want) || err != api.OK {
				t.Fatal(v, got, err, want)
			}
		}
		// More blocks than the cache has.
		script = n.script(kind, base, 100)
		_, got, err := equivalence.Run(kind, api.Variant{Name: "external", Base: base, N: 1}, script)
		if want := costs(t, base, 1, script); !slices.Equal(got, want) || err != api.OK {
			t.Fatal(base, got, err, want)
		}
		// One thread with all calls has the same outcomes.
		d, _ := library.Load(base)
		c, _ := bytecode.Compile(d)
		m, _ := heap.New(d)
		var calls []api.Call
		for _, o := range script {
			x, _ := library.Bind(base, o)
			calls = append(calls, x)
		}
		s, _ := stm.New(c, m, [][]api.Call{calls}, 100000)
		s, err = stm.Finish(c, s)
		if err != api.OK {
			t.Fatal(err)
		}
		for i, want := range costs(t, base, 0, script) {
			if s.Results[0][i].Cost != want {
				t.Fatal(base, i)
			}
		}
	}
}

func TestRunErrors(t *testing.T) {
	list := api.Variant{Name: "compiled", Base: "splay"}
	long := slices.Repeat([]api.Op{op(api.DictSize)}, 101)
	for i, x := range []struct {
		kind int
		v    api.Variant
		l    []api.Op
		want api.Errno
	}{
		{api.Heap, list, nil, api.ErrArg}, {api.Dict, api.Variant{}, long, api.ErrArg}, {api.Dict, list, append(long, op(99)), api.ErrArg}, {api.Dict, list, []api.Op{op(api.DictGet)}, api.ErrArg}, {api.Dict, list, append(long, op(api.DictRank, 1)), api.ErrFull}, {api.Dict, list, long, api.ErrFull}, {api.Dict, list, []api.Op{op(api.DictSize), op(api.DictRank, 1)}, api.ErrNone},
		{api.Dict, api.Variant{Name: "model"}, long, api.ErrFull}, {api.Dict, api.Variant{Name: "btree", N: 5}, []api.Op{op(api.DictRank, 1)}, api.OK}, {api.Dict, list, long[:100], api.OK},
	} {
		r, c, err := equivalence.Run(x.kind, x.v, x.l)
		if err != x.want || err != api.OK && (r != nil || c != nil) {
			t.Error(i, r, c, err)
		}
		same, difference, err := equivalence.Compare(x.kind, x.v, x.l)
		if err != x.want || same != (err == api.OK) || difference.At != 0 || !sameRes(difference.Want, api.Res{}) {
			t.Error(i, same, difference, err)
		}
	}
}
