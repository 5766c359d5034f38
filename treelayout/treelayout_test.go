package treelayout_test

import (
	"math/bits"
	"slices"
	"testing"

	"heartwood/api"
	"heartwood/treelayout"
)

func layout(t *testing.T, kind, height int) []int {
	t.Helper()
	l, err := treelayout.Layout(kind, height)
	if err != api.OK || len(l) != 1<<height-1 {
		t.Fatal(kind, height, len(l), err)
	}
	return l
}

// order returns the nodes in the order of their positions, made as the chapter says it.
func order(kind, root, height int) []int {
	if height == 0 {
		return nil
	}
	switch kind {
	case 1:
		var l []int
		for v := range 1<<height - 1 {
			l = append(l, v)
		}
		return l
	case 2:
		return slices.Concat(order(2, 2*root+1, height-1), []int{root}, order(2, 2*root+2, height-1))
	case 3:
		return slices.Concat([]int{root}, order(3, 2*root+1, height-1), order(3, 2*root+2, height-1))
	}
	if height == 1 {
		return []int{root}
	}
	l := order(4, root, height-height/2)
	level := []int{root}
	for range height - height/2 {
		var next []int
		for _, v := range level {
			next = append(next, 2*v+1, 2*v+2)
		}
		level = next
	}
	for _, v := range level {
		l = append(l, order(4, v, height/2)...)
	}
	return l
}

// P25.1

func TestLayout(t *testing.T) {
	if l := layout(t, 4, 4); !slices.Equal(l, []int{0, 1, 2, 3, 6, 9, 12, 4, 5, 7, 8, 10, 11, 13, 14}) {
		t.Error(l)
	}
	if l := layout(t, 2, 3); !slices.Equal(l, []int{3, 1, 5, 0, 2, 4, 6}) {
		t.Error(l)
	}
	if l := layout(t, 3, 3); !slices.Equal(l, []int{0, 1, 4, 2, 3, 5, 6}) {
		t.Error(l)
	}
	if l := layout(t, 4, 3); !slices.Equal(l, []int{0, 1, 2, 3, 4, 5, 6}) {
		t.Error(l)
	}
	for kind := 1; kind <= 4; kind++ {
		for height := 1; height <= 16; height++ {
			l := layout(t, kind, height)
			want := order(kind, 0, height)
			for at, v := range want {
				if l[v] != at {
					t.Fatal(kind, height, v, l[v], at)
				}
			}
			inverse, err := treelayout.Inverse(l)
			if err != api.OK || !slices.Equal(inverse, want) {
				t.Fatal(kind, height, err)
			}
			back, err := treelayout.Inverse(inverse)
			if err != api.OK || !slices.Equal(back, l) {
				t.Fatal(kind, height, err)
			}
		}
	}
	for _, c := range [][2]int{{0, 1}, {5, 1}, {-1, 1}, {1, 0}, {4, 17}, {2, -1}, {1, 1 << 40}, {1 << 40, 3}} {
		if l, err := treelayout.Layout(c[0], c[1]); err != api.ErrRange || len(l) != 0 {
			t.Error(c, err)
		}
	}
}

func permutation(n int) []int {
	l := make([]int, n)
	for i := range l {
		l[i] = (i*7 + 3) % n
	}
	return l
}

// wrong has lists that are no permutations.
func wrong() [][]int {
	return [][]int{{1}, {-1}, {0, 0}, {0, 2}, {1, 2, 3}, {0, 1, 1}, {0, 1 << 60}, {2, 1, -1}, permutation(65536)}
}

func TestInverse(t *testing.T) {
	for _, c := range [][2][]int{{{}, {}}, {{0}, {0}}, {{2, 0, 1}, {1, 2, 0}}, {{0, 1, 2, 3}, {0, 1, 2, 3}}} {
		before := slices.Clone(c[0])
		l, err := treelayout.Inverse(c[0])
		if err != api.OK || !slices.Equal(l, c[1]) {
			t.Error(c, l, err)
		}
		clear(l)
		if !slices.Equal(c[0], before) {
			t.Error("the result shares memory with the argument")
		}
	}
	if l, err := treelayout.Inverse(permutation(65535)); err != api.OK || len(l) != 65535 {
		t.Error(err)
	}
	for _, l := range wrong() {
		if r, err := treelayout.Inverse(l); err != api.ErrArg || len(r) != 0 {
			t.Errorf("%.60v %v", l, err)
		}
		if n, err := treelayout.Blocks(l, []int{99999}, 3); err != api.ErrArg || n != 0 {
			t.Errorf("%.60v %v", l, err)
		}
		if n, err := treelayout.Blocks(l, nil, 0); err != api.ErrRange || n != 0 {
			t.Errorf("%.60v %v", l, err)
		}
	}
}

// P25.2

func TestPath(t *testing.T) {
	for height := 1; height <= 16; height++ {
		leaves := 1 << (height - 1)
		for _, leaf := range []int{0, 1, leaves / 2, leaves - 1} {
			if leaf >= leaves {
				continue
			}
			l, err := treelayout.Path(height, leaf)
			want := []int{0}
			for k := height - 2; k >= 0; k-- {
				want = append(want, 2*want[len(want)-1]+1+leaf>>k&1)
			}
			if err != api.OK || !slices.Equal(l, want) {
				t.Error(height, leaf, l, err)
			}
		}
		for _, leaf := range []int{-1, leaves, 1 << 60} {
			if l, err := treelayout.Path(height, leaf); err != api.ErrRange || len(l) != 0 {
				t.Error(height, leaf, l, err)
			}
		}
	}
	for _, height := range []int{0, 17, -1} {
		if l, err := treelayout.Path(height, 0); err != api.ErrRange || len(l) != 0 {
			t.Error(height, l, err)
		}
	}
	if l, _ := treelayout.Path(4, 5); !slices.Equal(l, []int{0, 2, 5, 12}) {
		t.Error(l)
	}
}

func wantBlocks(t *testing.T, l, path []int, size, want int, err api.Errno) {
	t.Helper()
	if n, e := treelayout.Blocks(l, path, size); n != want || e != err {
		t.Error(path, size, n, e, want, err)
	}
}

func TestBlocks(t *testing.T) {
	l := []int{4, 0, 5, 1, 2, 3}
	wantBlocks(t, l, nil, 1, 0, api.OK)
	wantBlocks(t, l, []int{0, 1, 2}, 1, 3, api.OK)
	wantBlocks(t, l, []int{0, 1, 2}, 2, 2, api.OK)
	wantBlocks(t, l, []int{0, 2}, 2, 1, api.OK)
	wantBlocks(t, l, []int{1, 3, 4}, 3, 1, api.OK)
	wantBlocks(t, l, []int{1, 3, 4}, 2, 2, api.OK)
	wantBlocks(t, l, []int{0, 1, 0, 1, 0}, 2, 2, api.OK)
	wantBlocks(t, l, []int{0, 1, 2, 3, 4, 5}, 1<<60, 1, api.OK)
	wantBlocks(t, nil, nil, 1, 0, api.OK)
	for _, v := range []int{-1, 6, 1 << 60} {
		wantBlocks(t, l, []int{0, v}, 2, 0, api.ErrRange)
	}
	for _, size := range []int{0, -1, -1 << 63} {
		wantBlocks(t, l, []int{99}, size, 0, api.ErrRange)
	}
	wantBlocks(t, nil, []int{0}, 1, 0, api.ErrRange)
}

// P25.3

func TestWorst(t *testing.T) {
	for kind := 1; kind <= 4; kind++ {
		for height := 1; height <= 9; height++ {
			l := layout(t, kind, height)
			for _, size := range []int{1, 2, 3, 4, 7, 8, 15, 64, 1000} {
				want := 0
				for leaf := range 1 << (height - 1) {
					path, _ := treelayout.Path(height, leaf)
					n, err := treelayout.Blocks(l, path, size)
					if err != api.OK || n > len(path) || size == 1 && n != len(path) {
						t.Fatal(kind, height, size, n, err)
					}
					want = max(want, n)
				}
				if n, err := treelayout.Worst(kind, height, size); n != want || err != api.OK {
					t.Fatal(kind, height, size, n, err, want)
				}
			}
		}
	}
	for height := 1; height <= 16; height++ {
		for _, size := range []int{1, 2, 3, 7, 31, 100, 1 << 20} {
			n, err := treelayout.Worst(4, height, size)
			log := max(1, bits.Len(uint(size+1))-1)
			if limit := 4*((height+log-1)/log) + 4; err != api.OK || n > limit || n < 1 {
				t.Error(height, size, n, limit, err)
			}
		}
	}
	for _, c := range [][3]int{{0, 3, 1}, {5, 3, 1}, {1, 0, 1}, {1, 17, 1}, {1, 3, 0}, {4, 3, -1}} {
		if n, err := treelayout.Worst(c[0], c[1], c[2]); n != 0 || err != api.ErrRange {
			t.Error(c, n, err)
		}
	}
}

// P25.4

func keysOf(height int) []int {
	var l []int
	for i := range 1<<height - 1 {
		l = append(l, 3*i-20)
	}
	return l
}

func TestBuildAndSearch(t *testing.T) {
	for kind := 1; kind <= 4; kind++ {
		for height := 1; height <= 8; height++ {
			keys := keysOf(height)
			before := slices.Clone(keys)
			tree, err := treelayout.Build(kind, keys)
			if err != api.OK || len(tree) != len(keys) || !slices.Equal(keys, before) {
				t.Fatal(kind, height, err)
			}
			l := layout(t, kind, height)
			for i, v := range order(2, 0, height) {
				if tree[l[v]] != keys[i] {
					t.Fatal(kind, height, v)
				}
				if height > 6 && i%5 > 0 {
					continue
				}
				checkSearch(t, kind, tree, l, keys[i], v)
			}
			for _, key := range []int{-21, -19, 3 * len(keys), 1<<63 - 1, -1 << 63} {
				if at, n, err := treelayout.Search(kind, tree, key, 2); at != 0 || n != 0 || err != api.ErrNone {
					t.Fatal(kind, height, key, at, n, err)
				}
			}
		}
	}
}

// checkSearch searches for the key of a node v.
func checkSearch(t *testing.T, kind int, tree, l []int, key, v int) {
	t.Helper()
	path := []int{v}
	for v > 0 {
		v = (v - 1) / 2
		path = append(path, v)
	}
	for _, size := range []int{1, 2, 5, 1000} {
		want, _ := treelayout.Blocks(l, path, size)
		at, n, err := treelayout.Search(kind, tree, key, size)
		if err != api.OK || at != l[path[0]] || tree[at] != key || n != want {
			t.Fatal(kind, key, size, at, n, err, want)
		}
	}
}

func TestBuildErrors(t *testing.T) {
	build := func(kind int, keys []int, want api.Errno) {
		t.Helper()
		if l, err := treelayout.Build(kind, keys); err != want || len(l) != 0 {
			t.Error(kind, len(keys), err)
		}
	}
	for _, kind := range []int{0, 5, -1} {
		build(kind, []int{2, 1}, api.ErrRange)
	}
	for kind := 1; kind <= 4; kind++ {
		for _, n := range []int{0, 2, 4, 5, 6, 8, 16, 65534, 65536, 1<<17 - 1} {
			build(kind, make([]int, n), api.ErrSize)
		}
		build(kind, []int{1, 2, 2}, api.ErrArg)
		build(kind, []int{2, 1, 3}, api.ErrArg)
		if l, err := treelayout.Build(kind, keysOf(16)); err != api.OK || len(l) != 65535 {
			t.Error(err)
		}
		if l, err := treelayout.Build(kind, []int{-7}); err != api.OK || !slices.Equal(l, []int{-7}) {
			t.Error(l, err)
		}
	}
}

func TestSearchErrors(t *testing.T) {
	search := func(kind int, tree []int, key, size int, want api.Errno) {
		t.Helper()
		if at, n, err := treelayout.Search(kind, tree, key, size); at != 0 || n != 0 || err != want {
			t.Error(kind, tree, key, size, at, n, err)
		}
	}
	for _, kind := range []int{0, 5} {
		search(kind, []int{1, 2}, 1, 1, api.ErrRange)
	}
	for kind := 1; kind <= 4; kind++ {
		search(kind, []int{1, 2}, 1, 0, api.ErrRange)
		search(kind, []int{2, 1, 3}, 2, -1, api.ErrRange)
		search(kind, []int{1, 2}, 1, 1, api.ErrSize)
		search(kind, nil, 1, 1, api.ErrSize)
		search(kind, make([]int, 1<<17-1), 1, 1, api.ErrSize)
		search(kind, []int{1, 1, 1}, 1, 1, api.ErrArg)
	}
	// The tree of one kind is none of another one.
	for kind := 1; kind <= 4; kind++ {
		tree, _ := treelayout.Build(kind, keysOf(4))
		for other := 1; other <= 4; other++ {
			_, _, err := treelayout.Search(other, tree, 1, 1)
			if (err == api.OK) != (kind == other) || kind != other && err != api.ErrArg {
				t.Error(kind, other, err)
			}
		}
	}
}
