package planner_test

import (
	"slices"
	"testing"

	"heartwood/api"
	"heartwood/equivalence"
	"heartwood/planner"
)

// numbers yields numbers by a fixed rule.
type numbers int

func (n *numbers) below(limit int) int {
	*n = *n * 48271 % 2147483647
	return int(*n) % limit
}

func op(code int, args ...int) api.Op { return api.Op{Code: code, Args: args} }

func (n *numbers) script(size int) []api.Op {
	var l []api.Op
	for range size {
		switch k := n.below(12); n.below(3) {
		case 0:
			l = append(l, op(api.DictPut, k, n.below(9)))
		case 1:
			l = append(l, op(api.DictGet, k))
		default:
			l = append(l, op(api.DictRemove, k))
		}
	}
	return l
}

func variants() []api.Variant {
	return []api.Variant{{Name: "plain", Base: "list"}, {Name: "external", Base: "treap", N: 4}, {Name: "compiled", Base: "bst"}, {Name: "plain", Base: "list"}, {Name: "external", Base: "list", N: 2}, {Name: "guarded", Base: "splay"}}
}

func price(w, c api.Cost) int { return w.Compares*c.Compares + w.Nodes*c.Nodes + w.Blocks*c.Blocks }

func sum(l []api.Cost) api.Cost {
	var s api.Cost
	for _, c := range l {
		s.Compares, s.Nodes, s.Blocks = s.Compares+c.Compares, s.Nodes+c.Nodes, s.Blocks+c.Blocks
	}
	return s
}

// P55.1 to P55.3, and P55.6
func TestChoices(t *testing.T) {
	n := numbers(3)
	all := variants()
	for range 12 {
		l := n.script(n.below(25))
		vs := slices.Clone(all[:1+n.below(len(all))])
		var want []api.Cost
		for _, v := range vs {
			_, costs, _ := equivalence.Run(api.Dict, v, l)
			want = append(want, sum(costs))
		}
		if got, err := planner.Costs(api.Dict, vs, l); !slices.Equal(got, want) || err != api.OK {
			t.Fatal(vs, got, err, want)
		}
		for _, w := range []api.Cost{{}, {Compares: 1}, {Nodes: 1}, {Blocks: 1}, {Compares: 3, Nodes: 1, Blocks: 1000}, {Compares: 1000, Nodes: 1000, Blocks: 1000}} {
			best := 0
			for i, c := range want {
				if price(w, c) < price(w, want[best]) {
					best = i
				}
			}
			c, err := planner.Choose(api.Dict, vs, l, w)
			if c.Best != best || !slices.Equal(c.Costs, want) || err != api.OK || !planner.Check(api.Dict, vs, l, w, c) {
				t.Fatal(vs, w, c, err, best)
			}
			front, _ := planner.Front(c.Costs)
			if min(w.Compares, w.Nodes, w.Blocks) > 0 && !slices.Contains(front, best) {
				t.Fatal(vs, w, c, front)
			}
			checkWrongChoices(t, vs, l, w, c)
		}
	}
}

// checkWrongChoices changes a choice in each way.
func checkWrongChoices(t *testing.T, vs []api.Variant, l []api.Op, w api.Cost, c api.Choice) {
	t.Helper()
	for i, f := range []func(c *api.Choice){
		func(c *api.Choice) { c.Best++ }, func(c *api.Choice) { c.Best = -1 }, func(c *api.Choice) { c.Costs = c.Costs[1:] }, func(c *api.Choice) { c.Costs = append(c.Costs, api.Cost{}) },
		func(c *api.Choice) { c.Costs[0].Compares++ }, func(c *api.Choice) { c.Costs[0].Nodes-- }, func(c *api.Choice) { c.Costs[len(c.Costs)-1].Blocks++ },
	} {
		x := api.Choice{Best: c.Best, Costs: slices.Clone(c.Costs)}
		if f(&x); planner.Check(api.Dict, vs, l, w, x) {
			t.Fatal(i, x, c)
		}
	}
}

// best finds the best plan of all.
func best(prices [][]int, change int) ([]int, int) {
	var found []int
	least := 0
	var visit func(plan []int, cost int)
	visit = func(plan []int, cost int) {
		i := len(plan)
		if i == len(prices) {
			if found == nil || cost < least {
				found, least = plan, cost
			}
			return
		}
		for v, p := range prices[i] {
			c := cost + p
			if i > 0 && plan[i-1] != v {
				c += change
			}
			visit(append(slices.Clone(plan), v), c)
		}
	}
	visit(nil, 0)
	return found, least
}

// P55.4 and P55.6
func TestPlans(t *testing.T) {
	n := numbers(8)
	all := variants()
	for round := range 25 {
		vs := all[n.below(3):][:1+n.below(3)]
		l := n.script(round % 8)
		w := api.Cost{Compares: n.below(5), Nodes: n.below(4), Blocks: n.below(100)}
		prices := make([][]int, len(l))
		for _, v := range vs {
			_, costs, _ := equivalence.Run(api.Dict, v, l)
			for i, c := range costs {
				prices[i] = append(prices[i], price(w, c))
			}
		}
		last := 0
		choice, _ := planner.Choose(api.Dict, vs, l, w)
		for _, change := range []int{0, 1, 2, 5, 20, 100, api.MaxKey} {
			want, cost := best(prices, change)
			plan, got, err := planner.Switch(api.Dict, vs, l, w, change)
			if !slices.Equal(plan, want) || got != cost || err != api.OK {
				t.Fatal(vs, l, w, change, plan, got, err, want, cost)
			}
			if got < last || got > price(w, choice.Costs[choice.Best]) {
				t.Fatal(change, got, last)
			}
			last = got
		}
	}
	// The longest scripts, with as many variants as there may be.
	vs := slices.Repeat([]api.Variant{{Name: "plain", Base: "leftist"}, {Name: "model"}, {Name: "softheap"}, {Name: "plain", Base: "pairing"}}, 16)
	l := slices.Repeat([]api.Op{op(api.HeapInsert, 3), op(api.HeapDeleteMin)}, 50)
	if plan, cost, err := planner.Switch(api.Heap, vs, l, api.Cost{Nodes: 1000}, 5); len(plan) != 100 || plan[50] != 1 || cost != 0 || err != api.OK {
		t.Error(plan, cost, err)
	}
	if c, err := planner.Choose(api.Heap, vs, l, api.Cost{Nodes: 1000}); c.Best != 1 || len(c.Costs) != 64 || err != api.OK {
		t.Error(c.Best, err)
	}
}

func TestErrors(t *testing.T) {
	good := []api.Variant{{Name: "model"}}
	many := slices.Repeat(good, api.MaxArgs+1)
	bad := []api.Variant{{Name: "model"}, {Name: "plain", Base: "splay"}, {Name: "nope"}}
	rank := []api.Op{op(api.DictRank, 1)}
	long := slices.Repeat(rank, 101)
	for i, x := range []struct {
		vs     []api.Variant
		l      []api.Op
		w      api.Cost
		change int
		costs  api.Errno
		choose api.Errno
		plan   api.Errno
	}{
		{nil, rank, api.Cost{}, 0, api.ErrRange, api.ErrRange, api.ErrRange}, {many, rank, api.Cost{}, 0, api.ErrRange, api.ErrRange, api.ErrRange}, {good, rank, api.Cost{}, 0, api.OK, api.OK, api.OK}, {many[1:], rank, api.Cost{Compares: 1000, Nodes: 1000, Blocks: 1000}, api.MaxKey, api.OK, api.OK, api.OK},
		{bad, rank, api.Cost{Compares: -1}, 0, api.ErrNone, api.ErrRange, api.ErrRange}, {bad, rank, api.Cost{Nodes: 1001}, 0, api.ErrNone, api.ErrRange, api.ErrRange}, {bad, rank, api.Cost{Blocks: 1001}, 0, api.ErrNone, api.ErrRange, api.ErrRange}, {bad, rank, api.Cost{}, -1, api.ErrNone, api.ErrNone, api.ErrRange}, {bad, rank, api.Cost{}, api.MaxKey + 1, api.ErrNone, api.ErrNone, api.ErrRange},
		{bad, rank, api.Cost{}, 0, api.ErrNone, api.ErrNone, api.ErrNone}, {bad, nil, api.Cost{}, 0, api.ErrArg, api.ErrArg, api.ErrArg}, {bad, long, api.Cost{}, 0, api.ErrFull, api.ErrFull, api.ErrFull}, {good, []api.Op{op(99)}, api.Cost{}, 0, api.ErrArg, api.ErrArg, api.ErrArg},
	} {
		if l, err := planner.Costs(api.Dict, x.vs, x.l); err != x.costs || err != api.OK && l != nil {
			t.Error(i, l, err)
		}
		c, err := planner.Choose(api.Dict, x.vs, x.l, x.w)
		if err != x.choose || err != api.OK && (c.Best != 0 || c.Costs != nil) || planner.Check(api.Dict, x.vs, x.l, x.w, c) != (err == api.OK) {
			t.Error(i, c, err)
		}
		if l, n, err := planner.Switch(api.Dict, x.vs, x.l, x.w, x.change); err != x.plan || err != api.OK && (l != nil || n != 0) {
			t.Error(i, l, n, err)
		}
	}
	if l, n, err := planner.Switch(api.Dict, good, nil, api.Cost{}, 0); len(l) != 0 || n != 0 || err != api.OK {
		t.Error(l, n, err)
	}
	if _, err := planner.Costs(0, good, nil); err != api.ErrArg {
		t.Error(err)
	}
}

// P55.5 and P55.6
func TestFront(t *testing.T) {
	cost := func(a, b, c int) api.Cost { return api.Cost{Compares: a, Nodes: b, Blocks: c} }
	if l, err := planner.Front([]api.Cost{cost(1, 5, 0), cost(2, 3, 0), cost(2, 4, 0), cost(1, 5, 0)}); !slices.Equal(l, []int{0, 1, 3}) || err != api.OK {
		t.Error(l, err)
	}
	n := numbers(5)
	for _, spread := range []int{1, 2, 4, 100} {
		for _, size := range []int{0, 1, 2, 5, 40, api.MaxList} {
			var l []api.Cost
			for range size {
				l = append(l, cost(n.below(spread), n.below(spread), n.below(spread)))
			}
			var want []int
			for i, a := range l {
				if !slices.ContainsFunc(l, func(b api.Cost) bool {
					return a.Compares >= b.Compares && a.Nodes >= b.Nodes && a.Blocks >= b.Blocks && (a.Compares > b.Compares || a.Nodes > b.Nodes || a.Blocks > b.Blocks)
				}) {
					want = append(want, i)
				}
			}
			got, err := planner.Front(l)
			if !slices.Equal(got, want) || err != api.OK {
				t.Fatal(l, got, err, want)
			}
			var front []api.Cost
			for _, i := range got {
				front = append(front, l[i])
			}
			if again, err := planner.Front(front); len(again) != len(front) || err != api.OK {
				t.Fatal(front, again)
			}
		}
	}
	long := make([]api.Cost, api.MaxList+1)
	for i, x := range []struct {
		l    []api.Cost
		want api.Errno
	}{{[]api.Cost{cost(-1, 0, 0)}, api.ErrArg}, {[]api.Cost{cost(0, 0, 0), cost(0, -1, 0)}, api.ErrArg}, {[]api.Cost{cost(0, 0, -1<<63)}, api.ErrArg}, {long, api.ErrFull}, {append(long, cost(0, 0, -1)), api.ErrArg}, {[]api.Cost{cost(1<<62, 1<<62, 1<<62)}, api.OK}} {
		if l, err := planner.Front(x.l); err != x.want || err != api.OK && l != nil {
			t.Error(i, l, err)
		}
	}
}
