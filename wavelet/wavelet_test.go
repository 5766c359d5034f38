package wavelet_test

import (
	"cmp"
	"slices"
	"testing"

	"heartwood/api"
	"heartwood/wavelet"
)

func made(t *testing.T, l []int, sigma int) *wavelet.Tree {
	t.Helper()
	x, err := wavelet.Make(l, sigma)
	if err != api.OK || x == nil {
		t.Fatal(err)
	}
	return x
}

// numbers yields numbers by a fixed rule.
type numbers int

func (n *numbers) below(limit int) int {
	*n = *n * 48271 % 2147483647
	return int(*n) % limit
}

func (n *numbers) list(count, sigma int) []int {
	l := make([]int, count)
	for i := range l {
		l[i] = n.below(sigma)
		if n.below(3) == 0 {
			l[i] = n.below(min(sigma, 3))
		}
	}
	return l
}

// P22.1

func TestMake(t *testing.T) {
	heights := map[int]int{1: 0, 2: 1, 3: 2, 4: 2, 5: 3, 6: 3, 8: 3, 9: 4, 257: 9, 512: 9, 513: 10, 1024: 10}
	for sigma, height := range heights {
		n := numbers(sigma)
		l := n.list(30, sigma)
		x := made(t, l, sigma)
		if x.Len() != 30 || x.Space() != 30*height {
			t.Error(sigma, x.Len(), x.Space())
		}
		clear(l)
		if x := made(t, nil, sigma); x.Len() != 0 || x.Space() != 0 {
			t.Error(sigma, x.Len(), x.Space())
		}
	}
	bad := func(l []int, sigma int, want api.Errno) {
		t.Helper()
		if x, err := wavelet.Make(l, sigma); x != nil || err != want {
			t.Error(sigma, err)
		}
	}
	for _, sigma := range []int{0, -1, 1025, 1 << 40, -1 << 63} {
		bad(nil, sigma, api.ErrRange)
	}
	bad([]int{0, 1, 5}, 5, api.ErrRange)
	bad([]int{0, -1, 3}, 5, api.ErrRange)
	bad([]int{1}, 1, api.ErrRange)
	bad(make([]int, api.MaxNodes+1), 3, api.ErrFull)
	bad(append(make([]int, api.MaxNodes+1), 3), 3, api.ErrRange)
	if x := made(t, make([]int, api.MaxNodes), 1024); x.Len() != api.MaxNodes || x.Space() != 10*api.MaxNodes {
		t.Error(x.Len(), x.Space())
	}
}

// P22.2 to P22.5: everything that is asked of small trees, counted one by one.
func TestTrees(t *testing.T) {
	n := numbers(3)
	for _, sigma := range []int{1, 2, 3, 5, 8, 9, 40, 1024} {
		for _, count := range []int{0, 1, 2, 7, 20} {
			l := n.list(count, sigma)
			x := made(t, l, sigma)
			for i, want := range l {
				if v, err := x.Get(i); v != want || err != api.OK {
					t.Fatal(l, i, v, err)
				}
			}
			for _, i := range []int{-1, count, 1 << 60, -1 << 63} {
				if v, err := x.Get(i); v != 0 || err != api.ErrRange {
					t.Fatal(l, i, v, err)
				}
			}
			for v := -1; v <= sigma; v++ {
				if v > 50 && v < sigma && !slices.Contains(l, v) {
					continue
				}
				checkValue(t, x, l, sigma, v)
			}
			for from := -1; from <= count+1; from++ {
				for to := -1; to <= count+1; to++ {
					checkRange(t, x, l, sigma, from, to)
				}
			}
		}
	}
}

func checkValue(t *testing.T, x *wavelet.Tree, l []int, sigma, v int) {
	t.Helper()
	good := v >= 0 && v < sigma
	count := 0
	for i := -1; i <= len(l)+1; i++ {
		r, err := x.Rank(v, i)
		if !good || i < 0 || i > len(l) {
			if r != 0 || err != api.ErrRange {
				t.Fatal(l, v, i, r, err)
			}
			continue
		}
		if r != count || err != api.OK {
			t.Fatal(l, v, i, r, err)
		}
		if i < len(l) && l[i] == v {
			if k, err := x.Select(v, count); k != i || err != api.OK {
				t.Fatal(l, v, count, k, err)
			}
			count++
		}
	}
	for _, k := range []int{count, count + 1, 1 << 60} {
		want := api.ErrNone
		if !good {
			want = api.ErrRange
		}
		if i, err := x.Select(v, k); i != 0 || err != want {
			t.Fatal(l, v, k, i, err)
		}
	}
	for _, k := range []int{-1, -1 << 63} {
		if i, err := x.Select(v, k); i != 0 || err != api.ErrRange {
			t.Fatal(l, v, k, i, err)
		}
	}
}

func checkRange(t *testing.T, x *wavelet.Tree, l []int, sigma, from, to int) {
	t.Helper()
	if from < 0 || from > to || to > len(l) {
		if v, err := x.Quantile(from, to, 0); v != 0 || err != api.ErrRange {
			t.Fatal(from, to, v, err)
		}
		if v, err := x.Count(from, to, 0, 3); v != 0 || err != api.ErrRange {
			t.Fatal(from, to, v, err)
		}
		if v, err := x.Next(from, to, 0); v != 0 || err != api.ErrRange {
			t.Fatal(from, to, v, err)
		}
		if v, err := x.Top(from, to, 3); len(v) != 0 || err != api.ErrRange {
			t.Fatal(from, to, v, err)
		}
		return
	}
	sorted := slices.Clone(l[from:to])
	slices.Sort(sorted)
	for k := -1; k <= len(sorted); k++ {
		v, err := x.Quantile(from, to, k)
		if k < 0 || k == len(sorted) {
			if v != 0 || err != api.ErrRange {
				t.Fatal(from, to, k, v, err)
			}
		} else if v != sorted[k] || err != api.OK {
			t.Fatal(from, to, k, v, err)
		}
	}
	ends := []int{-1 << 63, -1, 0, 1, 2, 4, sigma - 1, sigma, sigma + 1, 1024, 1025, 1<<63 - 1}
	for _, low := range ends {
		i, _ := slices.BinarySearch(sorted, low)
		v, err := x.Next(from, to, low)
		if i == len(sorted) && (v != 0 || err != api.ErrNone) || i < len(sorted) && (v != sorted[i] || err != api.OK) {
			t.Fatal(l, from, to, low, v, err)
		}
		for _, high := range ends {
			want := 0
			for _, v := range sorted {
				if low <= v && v <= high {
					want++
				}
			}
			if n, err := x.Count(from, to, low, high); n != want || err != api.OK {
				t.Fatal(l, from, to, low, high, n, err)
			}
		}
	}
	checkTop(t, x, sorted, from, to)
}

func checkTop(t *testing.T, x *wavelet.Tree, sorted []int, from, to int) {
	t.Helper()
	var want [][2]int
	for i, v := range sorted {
		if i == 0 || v != sorted[i-1] {
			want = append(want, [2]int{v, 0})
		}
		want[len(want)-1][1]++
	}
	slices.SortStableFunc(want, func(a, b [2]int) int { return cmp.Compare(b[1], a[1]) })
	for _, k := range []int{0, 1, 2, len(want), len(want) + 1, api.MaxList} {
		l, err := x.Top(from, to, k)
		if err != api.OK || !slices.Equal(l, want[:min(k, len(want))]) {
			t.Fatal(from, to, k, l, err, want)
		}
	}
	for _, k := range []int{-1, api.MaxList + 1} {
		if l, err := x.Top(from, to, k); err != api.ErrRange || len(l) != 0 {
			t.Fatal(from, to, k, l, err)
		}
	}
}

func TestExample(t *testing.T) {
	x := made(t, []int{3, 1, 4, 1, 5}, 6)
	if x.Space() != 15 {
		t.Error(x.Space())
	}
	for i, c := range []struct {
		got  func() (int, api.Errno)
		want int
	}{{func() (int, api.Errno) { return x.Rank(1, 4) }, 2}, {func() (int, api.Errno) { return x.Select(1, 1) }, 3}, {func() (int, api.Errno) { return x.Quantile(0, 5, 2) }, 3}, {func() (int, api.Errno) { return x.Count(1, 5, 1, 4) }, 3}, {func() (int, api.Errno) { return x.Next(0, 5, 2) }, 3}} {
		if n, err := c.got(); n != c.want || err != api.OK {
			t.Error(i, n, err)
		}
	}
	if l, err := x.Top(0, 5, 2); err != api.OK || !slices.Equal(l, [][2]int{{1, 2}, {3, 1}}) {
		t.Error(l, err)
	}
}

// P22.5, for the longest sequence: ranks and counts add up, and quantiles ascend.
func TestLongTree(t *testing.T) {
	n := numbers(77)
	l := n.list(api.MaxNodes, 1024)
	x := made(t, l, 1024)
	for _, i := range []int{0, 1, 777, 4095, 4096} {
		sum := 0
		for v := range 1024 {
			r, err := x.Rank(v, i)
			if err != api.OK {
				t.Fatal(err)
			}
			sum += r
		}
		if sum != i {
			t.Error(i, sum)
		}
	}
	for range 200 {
		cuts := []int{n.below(4097), n.below(4097), n.below(4097)}
		slices.Sort(cuts)
		v, w := n.below(1024), n.below(1024)
		a, _ := x.Count(cuts[0], cuts[1], v, w)
		b, _ := x.Count(cuts[1], cuts[2], v, w)
		c, _ := x.Count(cuts[0], cuts[2], v, w)
		d, _ := x.Count(cuts[0], cuts[2], 0, v-1)
		e, _ := x.Count(cuts[0], cuts[2], v, 1023)
		if a+b != c || d+e != cuts[2]-cuts[0] {
			t.Fatal(cuts, v, w, a, b, c, d, e)
		}
	}
	last := -1
	for k := range 4096 {
		v, err := x.Quantile(0, 4096, k)
		if err != api.OK || v < last {
			t.Fatal(k, v, err)
		}
		last = v
	}
	top, _ := x.Top(0, 4096, api.MaxList)
	top[0] = [2]int{-1, -1}
	if again, _ := x.Top(0, 4096, 1); again[0][1] < 100 {
		t.Error(again)
	}
}

func TestNil(t *testing.T) {
	var x *wavelet.Tree
	if x.Len() != 0 || x.Space() != 0 {
		t.Error("values")
	}
	check := func(v int, err api.Errno) {
		t.Helper()
		if v != 0 || err != api.ErrArg {
			t.Error(v, err)
		}
	}
	check(x.Get(0))
	check(x.Get(-1))
	check(x.Rank(-1, 0))
	check(x.Select(0, -1))
	check(x.Quantile(0, 0, 0))
	check(x.Count(0, 0, 0, 0))
	check(x.Next(1, 0, 0))
	if l, err := x.Top(0, 0, -1); len(l) != 0 || err != api.ErrArg {
		t.Error(l, err)
	}
	x = &wavelet.Tree{}
	if n, err := x.Count(0, 0, -5, 5); n != 0 || err != api.OK {
		t.Error(n, err)
	}
	if _, err := x.Rank(0, 0); err != api.ErrRange {
		t.Error(err)
	}
}
