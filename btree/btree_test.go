package btree_test

import (
	"maps"
	"slices"
	"testing"

	"heartwood/api"
	"heartwood/btree"
	"heartwood/model"
)

// numbers yields numbers by a fixed rule.
type numbers int

func (n *numbers) below(limit int) int {
	*n = *n * 48271 % 2147483647
	return int(*n) % limit
}

func newTree(t *testing.T, order int) *btree.Tree {
	t.Helper()
	x, err := btree.New(order)
	if err != api.OK || x == nil {
		t.Fatal(order, err)
	}
	return x
}

// checkShape checks all that is said of the nodes, and returns the keys in order.
func checkShape(t *testing.T, x *btree.Tree, order, count int) []int {
	t.Helper()
	levels := x.Levels()
	h := len(levels)
	q := (order + 1) / 2
	if x.Height() != h || x.Len() != count || (count == 0) != (h == 0) {
		t.Fatal(x.Height(), x.Len(), count, levels)
	}
	// Bounds on the entries of a tree of this height.
	least, most := 2, 1
	for range h - 1 {
		least *= q
	}
	for range h {
		most = min(most*order, 1<<40)
	}
	if h > 0 && (count < least-1 || count > most-1) {
		t.Fatal(order, h, count)
	}
	for depth, level := range levels {
		below := 0
		for i, keys := range level {
			least := q - 1
			if depth == 0 {
				least = 1
			}
			if len(keys) < least || len(keys) > order-1 {
				t.Fatal(order, depth, i, keys)
			}
			below += len(keys) + 1
		}
		if depth+1 < h && len(levels[depth+1]) != below || depth == 0 && len(level) != 1 {
			t.Fatal(order, depth, levels)
		}
	}
	keys := inOrder(levels, 0, 0)
	if len(keys) != count || !slices.IsSorted(keys) || len(slices.Compact(slices.Clone(keys))) != count {
		t.Fatal(order, keys, count)
	}
	return keys
}

// inOrder returns the keys below a node, by the levels alone.
func inOrder(levels [][][]int, depth, i int) []int {
	if len(levels) == 0 {
		return nil
	}
	if depth == len(levels)-1 {
		return levels[depth][i]
	}
	first := 0
	for _, keys := range levels[depth][:i] {
		first += len(keys) + 1
	}
	l := slices.Clone(inOrder(levels, depth+1, first))
	for k, key := range levels[depth][i] {
		l = append(append(l, key), inOrder(levels, depth+1, first+k+1)...)
	}
	return l
}

// tester has a tree, and its entries.
type tester struct {
	t       *testing.T
	tree    *btree.Tree
	order   int
	entries map[int]int
}

func newTester(t *testing.T, order int) *tester {
	t.Helper()
	return &tester{t, newTree(t, order), order, map[int]int{}}
}

// counted does something, and checks how many visits are counted.
func (r *tester) counted(what func()) {
	r.t.Helper()
	height, blocks := r.tree.Height(), r.tree.Blocks()
	what()
	if n := r.tree.Blocks() - blocks; n < 0 || n > 4*(max(height, r.tree.Height())+1) {
		r.t.Fatal(r.order, n, height, r.tree.Height())
	}
}

func (r *tester) put(key, value int) {
	r.t.Helper()
	old, was := r.entries[key]
	r.counted(func() {
		if n, is, err := r.tree.Put(key, value); n != old || is != was || err != api.OK {
			r.t.Fatal("Put", key, n, is, err)
		}
	})
	r.entries[key] = value
}

func (r *tester) remove(key int) {
	r.t.Helper()
	old, was := r.entries[key]
	r.counted(func() {
		if n, err := r.tree.Remove(key); n != old || was && err != api.OK || !was && err != api.ErrNone {
			r.t.Fatal("Remove", key, n, err)
		}
	})
	delete(r.entries, key)
}

// ask compares the answers about a key.
func (r *tester) ask(keys []int, key int) {
	r.t.Helper()
	i, found := slices.BinarySearch(keys, key)
	r.counted(func() {
		if n, err := r.tree.Get(key); n != r.entries[key] || found && err != api.OK || !found && err != api.ErrNone {
			r.t.Fatal("Get", key, n, err)
		}
	})
	above := i
	if !found {
		i--
	}
	r.counted(func() {
		k, v, err := r.tree.Floor(key)
		if i < 0 && (k != 0 || v != 0 || err != api.ErrNone) || i >= 0 && (k != keys[i] || v != r.entries[k] || err != api.OK) {
			r.t.Fatal("Floor", key, k, v, err)
		}
	})
	r.counted(func() {
		k, v, err := r.tree.Ceiling(key)
		if above == len(keys) && (k != 0 || v != 0 || err != api.ErrNone) || above < len(keys) && (k != keys[above] || v != r.entries[k] || err != api.OK) {
			r.t.Fatal("Ceiling", key, k, v, err)
		}
	})
}

func (r *tester) check() []int {
	r.t.Helper()
	keys := checkShape(r.t, r.tree, r.order, len(r.entries))
	if !slices.Equal(keys, slices.Sorted(maps.Keys(r.entries))) {
		r.t.Fatal(keys, r.entries)
	}
	return keys
}

// P43.1 to P43.3, and P43.6: random changes of trees of many orders, with few and many keys.
func TestTrees(t *testing.T) {
	for _, order := range []int{3, 4, 5, 6, 7, 8, 16, 63, 64} {
		for _, spread := range []int{8, 60, 5000} {
			n := numbers(order + spread)
			r := newTester(t, order)
			for round := range 900 {
				key := n.below(spread) - spread/2
				if grow := round%300 < 200; n.below(5) > 0 == grow {
					r.put(key, n.below(100))
				} else {
					keys := slices.Sorted(maps.Keys(r.entries))
					if len(keys) > 0 && n.below(4) > 0 {
						key = keys[n.below(len(keys))]
					}
					r.remove(key)
				}
				if round%7 == 0 {
					keys := r.check()
					r.ask(keys, n.below(spread+4)-spread/2-2)
					r.ask(keys, key)
				}
			}
			for _, key := range r.check() {
				r.remove(key)
			}
			r.check()
			r.put(1, 2)
			r.check()
		}
	}
}

func TestExample(t *testing.T) {
	r := newTester(t, 3)
	for key := 1; key <= 3; key++ {
		r.put(key, 0)
	}
	if l := r.tree.Levels(); len(l) != 2 || !slices.EqualFunc(l[0], [][]int{{2}}, slices.Equal[[]int]) || !slices.EqualFunc(l[1], [][]int{{1}, {3}}, slices.Equal[[]int]) || r.tree.Height() != 2 {
		t.Error(l)
	}
}

// As many entries as there may be, put in and removed in several orders.
func TestGreatTrees(t *testing.T) {
	for _, order := range []int{3, 4, 9, 64} {
		for _, step := range []int{1, 1999, 777} {
			r := newTester(t, order)
			for i := range 2000 {
				r.put(i*step%2000, i)
			}
			r.check()
			blocks := r.tree.Blocks()
			if n, is, err := r.tree.Put(2000, 0); n != 0 || is || err != api.ErrFull || r.tree.Blocks() != blocks {
				t.Error(n, is, err)
			}
			r.put(1999, 5)
			if x, err := r.tree.Do(api.Op{Code: api.DictPut, Args: []int{2000, 1}}); x.Err != api.ErrFull || x.N != 0 || err != api.OK {
				t.Error(x, err)
			}
			checkScans(t, r)
			for i := range 2000 {
				r.remove(i * 7 % 2000)
				if i%100 == 0 {
					r.check()
				}
			}
			r.check()
		}
	}
}

func checkScans(t *testing.T, r *tester) {
	t.Helper()
	for _, c := range []struct {
		from, to int
		want     api.Errno
	}{{0, 1000, api.OK}, {0, 1001, api.ErrFull}, {-api.MaxKey, api.MaxKey, api.ErrFull}, {1000, api.MaxKey, api.OK}, {999, api.MaxKey, api.ErrFull}, {5, 5, api.OK}, {9, 5, api.OK}, {1999, 2000, api.OK}, {17, 900, api.OK}} {
		l, err := r.tree.Scan(c.from, c.to)
		if err != c.want || err != api.OK && l != nil {
			t.Error(c, len(l), err)
		}
		if err != api.OK {
			continue
		}
		var want [][2]int
		for key := c.from; key < min(c.to, 2000); key++ {
			want = append(want, [2]int{key, r.entries[key]})
		}
		if !slices.Equal(l, want) {
			t.Error(c, l)
		}
	}
}

// P43.4: what is executed has the results of the model.
func TestDo(t *testing.T) {
	for _, order := range []int{3, 4, 10} {
		n := numbers(order)
		x := newTree(t, order)
		state, _ := model.New(api.Dict)
		for range 1500 {
			o := api.Op{Code: 1 + n.below(10)}
			if o.Code > 8 {
				o.Code = api.DictPut
			}
			for range []int{0, 2, 1, 1, 1, 1, 1, 1, 0}[o.Code] {
				o.Args = append(o.Args, n.below(60)-5)
			}
			var want api.Res
			state, want, _ = model.Apply(state, o)
			if got, err := x.Do(o); got.Err != want.Err || got.N != want.N || len(got.L) != 0 || err != api.OK {
				t.Fatal(order, o, got, err, want)
			}
		}
		checkShape(t, x, order, len(state.Rows))
		for _, o := range []api.Op{{}, {Code: 9}, {Code: api.DictPut, Args: []int{1}}, {Code: api.DictGet, Args: []int{api.MaxKey + 1}}, {Code: api.DictSize, Args: []int{1}}, {Code: -1}} {
			if got, err := x.Do(o); got.Err != api.OK || got.N != 0 || err != api.ErrArg {
				t.Error(o, got, err)
			}
		}
	}
}

// P43.5 and P43.7
func TestLoad(t *testing.T) {
	n := numbers(6)
	for _, order := range []int{3, 4, 5, 12, 64} {
		for _, size := range []int{0, 1, 2, 3, 10, 100, 2000} {
			var l [][2]int
			for i := range size {
				l = append(l, [2]int{3*i - 500, n.below(50)})
			}
			r := newTester(t, order)
			r.put(1, 1)
			r.remove(1)
			blocks := r.tree.Blocks()
			if err := r.tree.Load(l); err != api.OK || r.tree.Blocks() != blocks {
				t.Fatal(order, size, err)
			}
			for _, e := range l {
				r.entries[e[0]] = e[1]
			}
			keys := r.check()
			r.ask(keys, 100)
			want := api.ErrState
			if size == 0 {
				want = api.OK
			}
			for _, again := range [][][2]int{nil, l} {
				if err := r.tree.Load(again); err != want {
					t.Error(err, want)
				}
			}
			if size > 0 {
				clear(l)
				r.check()
			}
		}
	}
	long := make([][2]int, 2001)
	for i := range long {
		long[i][0] = i
	}
	for _, full := range []bool{false, true} {
		x := newTree(t, 3)
		if full {
			x.Put(1, 1)
		}
		for i, c := range []struct {
			l    [][2]int
			want api.Errno
		}{
			{[][2]int{{1, 1}, {1, 2}}, api.ErrArg}, {[][2]int{{2, 1}, {1, 2}}, api.ErrArg}, {[][2]int{{api.MaxKey + 1, 1}}, api.ErrArg}, {[][2]int{{1, -api.MaxKey - 1}}, api.ErrArg}, {[][2]int{{1, 1}, {2, 1 << 62}}, api.ErrArg},
			{long, api.ErrFull}, {append(long, [2]int{0, 0}), api.ErrArg},
		} {
			if err := x.Load(c.l); err != c.want || x.Len() > 1 {
				t.Error(full, i, err)
			}
		}
	}
}

func TestErrors(t *testing.T) {
	for _, order := range []int{2, 0, -1, 65, 1 << 62, -1 << 63} {
		if x, err := btree.New(order); x != nil || err != api.ErrRange {
			t.Error(order, err)
		}
	}
	x := newTree(t, 3)
	var none *btree.Tree
	for _, y := range []*btree.Tree{x, none, {}} {
		for _, key := range []int{api.MaxKey + 1, -api.MaxKey - 1, 1<<63 - 1, -1 << 63} {
			checkRefused(t, y, key, 0)
			checkRefused(t, y, 0, key)
		}
		if y == x {
			continue
		}
		checkRefused(t, y, 0, 0)
		if y.Len() != 0 || y.Height() != 0 || y.Levels() != nil || y.Blocks() != 0 {
			t.Error("values")
		}
		if r, err := y.Do(api.Op{Code: api.DictSize}); r.N != 0 || err != api.ErrArg {
			t.Error(r, err)
		}
		if y.Load(nil) != api.ErrArg {
			t.Error("Load")
		}
	}
	if x.Blocks() != 0 || x.Len() != 0 {
		t.Error(x.Blocks(), x.Len())
	}
}

// checkRefused checks that a key, or a value, is refused.
func checkRefused(t *testing.T, x *btree.Tree, key, value int) {
	t.Helper()
	if n, is, err := x.Put(key, value); n != 0 || is || err != api.ErrArg {
		t.Error(n, is, err)
	}
	if l, err := x.Scan(key, value); l != nil || err != api.ErrArg {
		t.Error(l, err)
	}
	if value != 0 {
		return
	}
	for _, f := range []func(int) (int, api.Errno){x.Get, x.Remove} {
		if n, err := f(key); n != 0 || err != api.ErrArg {
			t.Error(n, err)
		}
	}
	for _, f := range []func(int) (int, int, api.Errno){x.Floor, x.Ceiling} {
		if k, v, err := f(key); k != 0 || v != 0 || err != api.ErrArg {
			t.Error(k, v, err)
		}
	}
}

func TestSharing(t *testing.T) {
	r := newTester(t, 4)
	for i := range 50 {
		r.put(i, i)
	}
	for _, level := range r.tree.Levels() {
		for _, keys := range level {
			clear(keys)
		}
	}
	l, _ := r.tree.Scan(0, 50)
	clear(l)
	r.check()
}
