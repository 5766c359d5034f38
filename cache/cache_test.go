package cache_test

import (
	"slices"
	"testing"

	"heartwood/api"
	"heartwood/cache"
)

// numbers yields numbers by a fixed rule.
type numbers int

func (n *numbers) below(limit int) int {
	*n = *n * 48271 % 2147483647
	return int(*n) % limit
}

// references returns references, often to blocks that were referenced a short time ago.
func (n *numbers) references(size, blocks int) []int {
	var l []int
	for i := range size {
		if near := n.below(blocks + 2); i > near && n.below(2) == 0 {
			l = append(l, l[i-1-near])
		} else {
			l = append(l, n.below(blocks)*7)
		}
	}
	return l
}

// misses counts misses, the list of the blocks being changed by rules: what is done with a block that is in, and which
// one is evicted before the reference i.
func misses(l []int, m int, hit func(in []int, k int) []int, evicted func(in []int, i int) int) int {
	var in []int
	count := 0
	for i, block := range l {
		if k := slices.Index(in, block); k >= 0 {
			in = hit(in, k)
			continue
		}
		count++
		if len(in) == m {
			k := evicted(in, i)
			in = slices.Delete(in, k, k+1)
		}
		in = append(in, block)
	}
	return count
}

func first([]int, int) int { return 0 }

func lru(l []int, m int) int {
	return misses(l, m, func(in []int, k int) []int {
		block := in[k]
		return append(slices.Delete(in, k, k+1), block)
	}, first)
}

func fifo(l []int, m int) int {
	return misses(l, m, func(in []int, k int) []int { return in }, first)
}

func optimal(l []int, m int) int {
	return misses(l, m, func(in []int, k int) []int { return in }, func(in []int, i int) int {
		best, latest := 0, -1
		for k, block := range in {
			next := slices.Index(l[i:], block)
			if next < 0 {
				next = len(l)
			}
			if next > latest {
				best, latest = k, next
			}
		}
		return best
	})
}

// fewest finds the fewest misses of all choices of evicted blocks.
func fewest(l []int, m int, in []int) int {
	if len(l) == 0 {
		return 0
	}
	if slices.Contains(in, l[0]) {
		return fewest(l[1:], m, in)
	}
	if len(in) < m {
		return 1 + fewest(l[1:], m, append(slices.Clone(in), l[0]))
	}
	best := len(l)
	for k := range in {
		next := slices.Clone(in)
		next[k] = l[0]
		best = min(best, 1+fewest(l[1:], m, next))
	}
	return best
}

func distance(l []int, i int) int {
	for j := i - 1; j >= 0; j-- {
		if l[j] == l[i] {
			part := slices.Clone(l[j:i])
			slices.Sort(part)
			return len(slices.Compact(part))
		}
	}
	return 0
}

func checkAll(t *testing.T, l []int, m int) {
	t.Helper()
	if n, err := cache.LRU(l, m); n != lru(l, m) || err != api.OK {
		t.Fatal("LRU", l, m, n, err)
	}
	if n, err := cache.FIFO(l, m); n != fifo(l, m) || err != api.OK {
		t.Fatal("FIFO", l, m, n, err)
	}
	if n, err := cache.Optimal(l, m); n != optimal(l, m) || err != api.OK {
		t.Fatal("Optimal", l, m, n, err)
	}
}

// P41.1, P41.2, and P41.4
func TestMisses(t *testing.T) {
	for _, blocks := range []int{1, 2, 4, 9, 30} {
		n := numbers(blocks)
		for _, size := range []int{0, 1, 2, 10, 60, 300} {
			l := n.references(size, blocks)
			var want []int
			for i := range l {
				want = append(want, distance(l, i))
			}
			distances, err := cache.Distances(l)
			if !slices.Equal(distances, want) || err != api.OK {
				t.Fatal(l, distances, err, want)
			}
			curve, err := cache.Curve(l, 12)
			if len(curve) != 12 || err != api.OK {
				t.Fatal(curve, err)
			}
			for m := 1; m <= 12; m++ {
				checkAll(t, l, m)
				if curve[m-1] != lru(l, m) {
					t.Fatal(l, m, curve)
				}
			}
			checkLaws(t, l, distances)
		}
	}
}

func checkLaws(t *testing.T, l, distances []int) {
	t.Helper()
	for k := 1; k < 12; k++ {
		c, _ := cache.New(k)
		for i, block := range l {
			if hit, _ := c.Touch(block); hit != (1 <= distances[i] && distances[i] <= k) {
				t.Fatal(l, k, i, hit, distances)
			}
		}
		many, _ := cache.LRU(l, k)
		for h := 1; h <= k; h++ {
			few, _ := cache.Optimal(l, h)
			more, _ := cache.LRU(l, h)
			if (k-h+1)*many > k*few || more < many {
				t.Fatal(l, h, k, many, few, more)
			}
		}
	}
}

// No choice of evicted blocks has fewer misses than the optimal rule.
func TestOptimal(t *testing.T) {
	n := numbers(4)
	for range 60 {
		l := n.references(11, 5)
		for m := 1; m <= 3; m++ {
			if got, err := cache.Optimal(l, m); got != fewest(l, m, nil) || err != api.OK {
				t.Fatal(l, m, got, err)
			}
		}
	}
}

func TestExample(t *testing.T) {
	l := []int{1, 2, 3, 1, 2, 4, 1, 2, 3, 4}
	for i, f := range []func([]int, int) (int, api.Errno){cache.LRU, cache.FIFO, cache.Optimal} {
		if n, err := f(l, 3); n != []int{6, 8, 5}[i] || err != api.OK {
			t.Error(i, n, err)
		}
	}
}

// P41.3
func TestCaches(t *testing.T) {
	for _, m := range []int{1, 2, 3, 7, 20} {
		n := numbers(m)
		c, err := cache.New(m)
		if err != api.OK {
			t.Fatal(err)
		}
		var in []int // the last one that was referenced first
		count := 0
		for _, block := range n.references(400, 2*m) {
			k := slices.Index(in, block)
			hit, err := c.Touch(block)
			if hit != (k >= 0) || err != api.OK {
				t.Fatal(m, block, hit, err)
			}
			if k >= 0 {
				in = slices.Delete(in, k, k+1)
			} else {
				count++
			}
			in = slices.Insert(in, 0, block)
			in = in[:min(m, len(in))]
			if !slices.Equal(c.Blocks(), in) || c.Misses() != count {
				t.Fatal(m, c.Blocks(), in, c.Misses(), count)
			}
			for _, wrong := range []int{-1, api.MaxKey + 1, 1<<63 - 1, -1 << 63} {
				if hit, err := c.Touch(wrong); hit || err != api.ErrArg {
					t.Fatal(wrong, hit, err)
				}
			}
			clear(c.Blocks())
		}
	}
}

func TestErrors(t *testing.T) {
	long := make([]int, api.MaxSteps+1)
	wrong := slices.Clone(long)
	wrong[api.MaxSteps] = -1
	for i, f := range []func([]int, int) (int, api.Errno){
		cache.LRU, cache.FIFO, cache.Optimal, func(l []int, m int) (int, api.Errno) {
			x, err := cache.Curve(l, m)
			return len(x), err
		},
	} {
		for _, m := range []int{0, -1, api.MaxList + 1, 1 << 62, -1 << 63} {
			for _, c := range []struct {
				l    []int
				want api.Errno
			}{{nil, api.ErrRange}, {[]int{1}, api.ErrRange}, {[]int{api.MaxKey + 1}, api.ErrArg}, {wrong, api.ErrArg}, {long, api.ErrRange}} {
				if n, err := f(c.l, m); n != 0 || err != c.want {
					t.Error(i, m, n, err)
				}
			}
		}
		if n, err := f(long, 3); n != 0 || err != api.ErrFull {
			t.Error(i, n, err)
		}
		if n, err := f(wrong, 3); n != 0 || err != api.ErrArg {
			t.Error(i, n, err)
		}
		if n, err := f([]int{0, api.MaxKey}, 1); n < 1 || err != api.OK {
			t.Error(i, n, err)
		}
	}
	for _, c := range []struct {
		l    []int
		want api.Errno
	}{{long, api.ErrFull}, {wrong, api.ErrArg}, {[]int{0, -1}, api.ErrArg}, {[]int{0, api.MaxKey + 1}, api.ErrArg}} {
		if x, err := cache.Distances(c.l); x != nil || err != c.want {
			t.Error(len(c.l), x, err)
		}
	}
	for _, m := range []int{0, -1, api.MaxList + 1, 1 << 62, -1 << 63} {
		if c, err := cache.New(m); c != nil || err != api.ErrRange {
			t.Error(m, err)
		}
	}
}

// As many references as there may be, with the greatest capacities.
func TestGreat(t *testing.T) {
	var round []int
	n := numbers(5)
	for i := range api.MaxSteps {
		round = append(round, i%(api.MaxList+1))
	}
	if m, err := cache.LRU(round, api.MaxList); m != api.MaxSteps || err != api.OK {
		t.Error(m, err)
	}
	if m, err := cache.FIFO(round, api.MaxList); m != api.MaxSteps || err != api.OK {
		t.Error(m, err)
	}
	if m, err := cache.Optimal(round, api.MaxList); m < api.MaxList+1 || m > api.MaxList+100 || err != api.OK {
		t.Error(m, err)
	}
	l := make([]int, api.MaxSteps)
	for i := range l {
		l[i] = n.below(40000)
	}
	curve, err := cache.Curve(l, api.MaxList)
	if err != api.OK {
		t.Fatal(err)
	}
	for _, m := range []int{1, 10, 999, api.MaxList} {
		if misses, _ := cache.LRU(l, m); misses != curve[m-1] {
			t.Error(m, misses, curve[m-1])
		}
		if misses, _ := cache.Optimal(l, m); misses > curve[m-1] {
			t.Error(m, misses, curve[m-1])
		}
	}
	before := slices.Clone(l)
	cache.Distances(l)
	cache.FIFO(l, 3)
	if !slices.Equal(l, before) {
		t.Error("an argument was changed")
	}
}

func TestNil(t *testing.T) {
	var c *cache.Cache
	for range 2 {
		if hit, err := c.Touch(1); hit || err != api.ErrArg || c.Blocks() != nil || c.Misses() != 0 {
			t.Error(hit, err)
		}
		c = &cache.Cache{}
	}
}
