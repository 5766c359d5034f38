package buffertree_test

import (
	"maps"
	"slices"
	"testing"

	"heartwood/api"
	"heartwood/buffertree"
	"heartwood/ratio"
)

// numbers yields numbers by a fixed rule.
type numbers int

func (n *numbers) below(limit int) int {
	*n = *n * 48271 % 2147483647
	return int(*n) % limit
}

const removed = 1 << 40

// oracle follows the definitions with runs that are maps from keys to values, or to removed.
type oracle struct {
	block, memory, fan int
	buffer             map[int]int
	levels             [20][]map[int]int
	moved              int
}

func newOracle(block, memory int) *oracle {
	return &oracle{block: block, memory: memory, fan: max(2, memory/block-1), buffer: map[int]int{}}
}

func (o *oracle) blocks(n int) int { return (n + o.block - 1) / o.block }

func (o *oracle) height() int {
	for level := 19; level >= 0; level-- {
		if len(o.levels[level]) > 0 {
			return level + 1
		}
	}
	return 0
}

func (o *oracle) entries() int {
	n := len(o.buffer)
	for _, level := range o.levels {
		for _, run := range level {
			n += len(run)
		}
	}
	return n
}

func (o *oracle) update(key, value int) api.Errno {
	if _, is := o.buffer[key]; !is && o.entries() == api.MaxNodes {
		return api.ErrFull
	}
	o.buffer[key] = value
	if len(o.buffer) == o.memory {
		o.spill()
	}
	return api.OK
}

func (o *oracle) spill() {
	o.put(0, o.buffer)
	o.buffer = map[int]int{}
	for {
		level := slices.IndexFunc(o.levels[:], func(l []map[int]int) bool { return len(l) == o.fan })
		if level < 0 {
			return
		}
		run := o.read(level, level)
		if o.height() <= level {
			maps.DeleteFunc(run, func(_, v int) bool { return v == removed })
		}
		o.put(level+1, run)
	}
}

// read reads and removes the runs of levels.
func (o *oracle) read(low, high int) map[int]int {
	all := map[int]int{}
	for level := high; level >= low; level-- {
		for _, run := range o.levels[level] {
			o.moved += o.blocks(len(run))
			maps.Copy(all, run)
		}
		o.levels[level] = nil
	}
	return all
}

func (o *oracle) put(level int, run map[int]int) {
	if len(run) > 0 {
		o.moved += o.blocks(len(run))
		o.levels[level] = append(o.levels[level], run)
	}
}

func (o *oracle) flush() {
	if len(o.buffer) > 0 {
		o.spill()
	}
	if h := o.height(); h > 0 {
		run := o.read(0, h-1)
		maps.DeleteFunc(run, func(_, v int) bool { return v == removed })
		o.put(h-1, run)
	}
}

func (o *oracle) get(key int) (int, bool) {
	if v, is := o.buffer[key]; is {
		return v, v != removed
	}
	for _, level := range o.levels {
		for _, run := range slices.Backward(level) {
			o.moved++
			if v, is := run[key]; is {
				return v, v != removed
			}
		}
	}
	return 0, false
}

func (o *oracle) list() [][2]int {
	all := map[int]int{}
	for _, level := range slices.Backward(o.levels[:]) {
		for _, run := range level {
			maps.Copy(all, run)
		}
	}
	maps.Copy(all, o.buffer)
	var l [][2]int
	for _, key := range slices.Sorted(maps.Keys(all)) {
		if all[key] != removed {
			l = append(l, [2]int{key, all[key]})
		}
	}
	return l
}

func newTree(t *testing.T, block, memory int) *buffertree.Tree {
	t.Helper()
	x, err := buffertree.New(block, memory)
	if err != api.OK || x == nil {
		t.Fatal(block, memory, err)
	}
	return x
}

func check(t *testing.T, x *buffertree.Tree, o *oracle) {
	t.Helper()
	if x.Blocks() != o.moved || x.Buffered() != len(o.buffer) || x.Height() != o.height() {
		t.Fatal(o.block, o.memory, x.Blocks(), o.moved, x.Buffered(), len(o.buffer), x.Height(), o.height())
	}
	if l := x.List(); !slices.Equal(l, o.list()) {
		t.Fatal(l, o.list())
	}
}

// P44.1 to P44.4: random updates and questions, for many sizes.
func TestTrees(t *testing.T) {
	for _, s := range [][2]int{{1, 2}, {1, 3}, {1, 5}, {2, 4}, {2, 9}, {3, 6}, {3, 20}, {8, 40}, {64, 128}, {5, 1000}} {
		for _, spread := range []int{3, 20, 400} {
			n := numbers(s[0] + s[1] + spread)
			x, o := newTree(t, s[0], s[1]), newOracle(s[0], s[1])
			check(t, x, o)
			for round := range 1500 {
				key := n.below(spread) - spread/2
				want := api.OK
				switch k := n.below(40); {
				case k == 0 && n.below(3) == 0:
					o.flush()
					if err := x.Flush(); err != api.OK {
						t.Fatal(err)
					}
				case k < 6:
					v, is := o.get(key)
					if !is {
						v, want = 0, api.ErrNone
					}
					if got, err := x.Get(key); got != v || err != want {
						t.Fatal(key, got, err, v, want)
					}
				case k < 14 || round%500 > 400 && k < 35:
					want = o.update(key, removed)
					if err := x.Remove(key); err != want {
						t.Fatal(key, err, want)
					}
				default:
					want = o.update(key, round)
					if err := x.Put(key, round); err != want {
						t.Fatal(key, err, want)
					}
				}
				if round%10 == 0 {
					check(t, x, o)
				}
			}
			l := x.List()
			x.Flush()
			o.flush()
			check(t, x, o)
			if !slices.Equal(x.List(), l) {
				t.Fatal("flushing has changed the tree")
			}
			x.Flush()
			o.flush()
			check(t, x, o)
		}
	}
}

// What is removed altogether leaves no runs.
func TestEmptied(t *testing.T) {
	x, o := newTree(t, 1, 2), newOracle(1, 2)
	for key := range 8 {
		x.Put(key, key)
		o.update(key, key)
	}
	for range 3 {
		for key := range 8 {
			x.Remove(key)
			o.update(key, removed)
			check(t, x, o)
		}
	}
	x.Flush()
	o.flush()
	check(t, x, o)
	if x.Height() != 0 || len(x.List()) != 0 || x.Buffered() != 0 {
		t.Error(x.Height(), x.List())
	}
	blocks := x.Blocks()
	x.Flush()
	if _, err := x.Get(3); err != api.ErrNone || x.Blocks() != blocks {
		t.Error(err, x.Blocks(), blocks)
	}
}

func TestExample(t *testing.T) {
	x := newTree(t, 2, 4)
	for key := 4; key > 0; key-- {
		x.Put(key, key)
	}
	if x.Blocks() != 2 || x.Height() != 1 || x.Buffered() != 0 {
		t.Error(x.Blocks(), x.Height())
	}
	for key := 8; key > 4; key-- {
		x.Put(key, key)
	}
	if x.Blocks() != 12 || x.Height() != 2 {
		t.Error(x.Blocks(), x.Height())
	}
	if l, n, err := buffertree.Sort([]int{5, 4, 3, 2, 1}, 2, 4); !slices.Equal(l, []int{1, 2, 3, 4, 5}) || n != 12 || err != api.OK {
		t.Error(l, n, err)
	}
}

// As many entries as there may be; the bound of P44.6.
func TestFull(t *testing.T) {
	for _, s := range [][2]int{{1, 2}, {2, 4}, {4, 50}, {64, 1000}, {1, 1000}} {
		x, o := newTree(t, s[0], s[1]), newOracle(s[0], s[1])
		full := 0
		for i := range 4500 {
			key := i * 1237 % 100003
			if i%3 == 0 {
				key = i * 31 % 4096
			}
			want := o.update(key, i)
			if err := x.Put(key, i); err != want {
				t.Fatal(s, i, err, want)
			}
			if want != api.OK {
				full++
			}
			log, _ := ratio.FloorLog(max(1, (i+1)/s[1]))
			if n := x.Blocks() * s[0]; n > 3*(i+1)*(log+1) {
				t.Fatal(s, i, n)
			}
		}
		check(t, x, o)
		if s[1] > 500 && full > 0 && x.Put(7777777, 1) != api.ErrRange {
			t.Error("range")
		}
		// A key that is in the buffer can be changed in a full tree.
		for key := range o.buffer {
			if err := x.Remove(key); err != api.OK {
				t.Error(err)
			}
			break
		}
	}
	x := newTree(t, 1, 1000)
	for i := range api.MaxNodes {
		if err := x.Put(i, i); err != api.OK {
			t.Fatal(i, err)
		}
	}
	if x.Put(4096, 1) != api.ErrFull || x.Remove(4096) != api.ErrFull || x.Remove(5) != api.ErrFull || x.Put(4095, 7) != api.OK || x.Buffered() != 96 {
		t.Error("a full tree")
	}
	if n, err := x.Get(4095); n != 7 || err != api.OK {
		t.Error(n, err)
	}
}

// P44.5
func TestSort(t *testing.T) {
	n := numbers(8)
	for _, s := range [][2]int{{1, 2}, {1, 4}, {2, 4}, {3, 13}, {64, 128}, {7, 1000}} {
		for _, size := range []int{0, 1, 2, 3, 4, 5, 17, 100, 1000, 1001, api.MaxNodes} {
			var l []int
			for range size {
				l = append(l, n.below(1+size*2)-size)
			}
			if size > 1 {
				l[0], l[1] = 1<<63-1, -1<<63
			}
			before := slices.Clone(l)
			want := slices.Sorted(slices.Values(l))
			got, moved, err := buffertree.Sort(l, s[0], s[1])
			if !slices.Equal(got, want) || err != api.OK || moved != sortCost(size, s[0], s[1]) || !slices.Equal(l, before) {
				t.Fatal(s, size, moved, sortCost(size, s[0], s[1]), err)
			}
			if size > 0 {
				got[0]++
				if !slices.Equal(l, before) {
					t.Fatal("results share memory")
				}
			}
		}
	}
}

// sortCost counts the transfers by the lengths of the runs alone.
func sortCost(size, block, memory int) int {
	blocks := func(n int) int { return (n + block - 1) / block }
	var runs []int
	cost := 0
	for ; size > 0; size -= memory {
		runs = append(runs, min(size, memory))
		cost += 2 * blocks(min(size, memory))
	}
	for len(runs) > 1 {
		var next []int
		for len(runs) > 0 {
			k := min(max(2, memory/block-1), len(runs))
			sum := 0
			for _, n := range runs[:k] {
				sum += n
				cost += blocks(n)
			}
			cost += blocks(sum)
			next, runs = append(next, sum), runs[k:]
		}
		runs = next
	}
	return cost
}

func TestErrors(t *testing.T) {
	long := make([]int, api.MaxNodes+1)
	for _, s := range [][2]int{{0, 10}, {65, 1000}, {-1, 10}, {1, 1}, {5, 9}, {1, api.MaxList + 1}, {64, 127}, {1 << 62, 1 << 63 >> 1}, {-1 << 63, 5}, {1, -1 << 63}} {
		if x, err := buffertree.New(s[0], s[1]); x != nil || err != api.ErrRange {
			t.Error(s, err)
		}
		if l, n, err := buffertree.Sort(long, s[0], s[1]); l != nil || n != 0 || err != api.ErrRange {
			t.Error(s, n, err)
		}
	}
	if l, n, err := buffertree.Sort(long, 1, 2); l != nil || n != 0 || err != api.ErrFull {
		t.Error(n, err)
	}
	newTree(t, 64, api.MaxList)
	x, o := newTree(t, 1, 2), newOracle(1, 2)
	for i := range 3 {
		x.Put(i, i)
		o.update(i, i)
	}
	for _, key := range []int{api.MaxKey + 1, -api.MaxKey - 1, 1<<63 - 1, -1 << 63} {
		if x.Put(key, 0) != api.ErrRange || x.Put(0, key) != api.ErrRange || x.Remove(key) != api.ErrRange {
			t.Error(key)
		}
		if n, err := x.Get(key); n != 0 || err != api.ErrRange {
			t.Error(key, n, err)
		}
	}
	check(t, x, o)
	clear(x.List())
	check(t, x, o)
	if x.Put(api.MaxKey, -api.MaxKey) != api.OK || x.Remove(-api.MaxKey) != api.OK {
		t.Error("the greatest keys")
	}
}

func TestNil(t *testing.T) {
	var x *buffertree.Tree
	for range 2 {
		if x.Put(1<<62, 0) != api.ErrArg || x.Remove(0) != api.ErrArg || x.Flush() != api.ErrArg {
			t.Error("updates")
		}
		if n, err := x.Get(0); n != 0 || err != api.ErrArg {
			t.Error(n, err)
		}
		if x.List() != nil || x.Buffered() != 0 || x.Height() != 0 || x.Blocks() != 0 {
			t.Error("values")
		}
		x = &buffertree.Tree{}
	}
}
