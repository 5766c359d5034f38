package cascading_test

import (
	"math/bits"
	"slices"
	"testing"

	"heartwood/api"
	"heartwood/cascading"
)

func made(t *testing.T, l ...[]int) *cascading.Index {
	t.Helper()
	x, err := cascading.Make(l)
	if err != api.OK || x == nil {
		t.Fatal(err)
	}
	return x
}

// numbers yields numbers by a fixed rule.
type numbers int

func (n *numbers) below(limit int) int {
	*n = *n * 48271 % 2147483647
	return int(*n) % limit
}

func (n *numbers) catalogs(count, size, spread int) [][]int {
	l := make([][]int, count)
	for i := range l {
		for range n.below(size + 1) {
			l[i] = append(l[i], n.below(spread)-spread/2)
		}
		slices.Sort(l[i])
	}
	return l
}

func rank(l []int, key int) int {
	n := 0
	for _, v := range l {
		if v < key {
			n++
		}
	}
	return n
}

// augmented makes the augmented lists as the chapter says it.
func augmented(catalogs [][]int) [][]int {
	lists := make([][]int, len(catalogs))
	for i := len(catalogs) - 1; i >= 0; i-- {
		lists[i] = slices.Clone(catalogs[i])
		if i+1 < len(catalogs) {
			for k, v := range lists[i+1] {
				if k%2 == 1 {
					lists[i] = append(lists[i], v)
				}
			}
		}
		slices.Sort(lists[i])
	}
	return lists
}

func checkSearch(t *testing.T, x *cascading.Index, catalogs [][]int, first, key int) {
	t.Helper()
	var want []int
	for _, l := range catalogs {
		want = append(want, rank(l, key))
	}
	got, err := x.Search(key)
	if err != api.OK || !slices.Equal(got, want) {
		t.Fatal(catalogs, key, got, err, want)
	}
	// bits.Len(n) is ceil(log2(n + 1)).
	if c := x.Compares(); c < 0 || c > bits.Len(uint(first))+len(catalogs)-1 {
		t.Fatal("Compares", c, first, len(catalogs))
	}
}

func checkLists(t *testing.T, x *cascading.Index, catalogs [][]int) int {
	t.Helper()
	want := augmented(catalogs)
	lists := x.Lists()
	size, own := 0, 0
	for i, l := range want {
		size += len(l)
		own += len(catalogs[i])
	}
	if !slices.EqualFunc(lists, want, slices.Equal[[]int]) || x.Size() != size || own > 0 && size >= 2*own || x.Len() != len(catalogs) {
		t.Fatal(lists, want, x.Size())
	}
	return len(want[0])
}

// P29.1 to P29.5, for catalogs of many sizes, with few and many equal elements.
func TestIndexes(t *testing.T) {
	n := numbers(4)
	for _, count := range []int{1, 2, 3, 5, 8, 17, 32} {
		for _, size := range []int{0, 1, 3, 10, 60} {
			for _, spread := range []int{3, 50, 2000} {
				catalogs := n.catalogs(count, size, spread)
				x := made(t, catalogs...)
				if x.Compares() != 0 {
					t.Fatal("before the first search")
				}
				first := checkLists(t, x, catalogs)
				keys := []int{-1 << 63, -api.MaxKey, 0, api.MaxKey, 1<<63 - 1}
				for range 20 {
					keys = append(keys, n.below(spread+4)-spread/2-2)
				}
				slices.Sort(keys)
				last := make([]int, count)
				for _, key := range keys {
					checkSearch(t, x, catalogs, first, key)
					ranks, _ := x.Search(key)
					for i := range ranks {
						if ranks[i] < last[i] {
							t.Fatal("ranks descend")
						}
					}
					last = ranks
				}
			}
		}
	}
}

func TestExample(t *testing.T) {
	x := made(t, []int{1, 4, 6}, []int{2, 3, 5, 7})
	if l := x.Lists(); !slices.EqualFunc(l, [][]int{{1, 3, 4, 6, 7}, {2, 3, 5, 7}}, slices.Equal[[]int]) || x.Size() != 9 {
		t.Error(l)
	}
	if r, err := x.Search(5); err != api.OK || !slices.Equal(r, []int{2, 2}) {
		t.Error(r, err)
	}
}

// The comparisons are counted anew for each search; a search in one long catalog needs many of them.
func TestCompares(t *testing.T) {
	var long []int
	for i := range api.MaxList {
		long = append(long, 2*i)
	}
	x := made(t, long)
	for range 3 {
		most := 0
		for key := -1; key <= 2*api.MaxList; key++ {
			checkSearch(t, x, [][]int{long}, api.MaxList, key)
			most = max(most, x.Compares())
		}
		if most < 9 {
			t.Error(most)
		}
	}
	many := slices.Repeat([][]int{long}, 32)
	x = made(t, many...)
	first := checkLists(t, x, many)
	for _, key := range []int{-5, 0, 777, 778, 1998, 5000} {
		checkSearch(t, x, many, first, key)
	}
	empty := made(t, nil, nil)
	if r, err := empty.Search(3); err != api.OK || !slices.Equal(r, []int{0, 0}) || empty.Compares() > 1 || empty.Size() != 0 {
		t.Error(r, err)
	}
}

func TestMakeErrors(t *testing.T) {
	bad := func(l [][]int, want api.Errno) {
		t.Helper()
		if x, err := cascading.Make(l); x != nil || err != want {
			t.Error(len(l), err)
		}
	}
	bad(nil, api.ErrArg)
	bad([][]int{}, api.ErrArg)
	bad([][]int{{1, 2}, {2, 1}}, api.ErrArg)
	bad([][]int{{api.MaxKey + 1}}, api.ErrArg)
	bad([][]int{{1}, {-api.MaxKey - 1, 0}}, api.ErrArg)
	bad(make([][]int, 33), api.ErrFull)
	bad(slices.Repeat([][]int{{2, 1}}, 33), api.ErrFull)
	bad([][]int{{2, 1}, make([]int, api.MaxList+1)}, api.ErrFull)
	made(t, make([][]int, 32)...)
	made(t, make([]int, api.MaxList), []int{-api.MaxKey, api.MaxKey})
}

func TestSharing(t *testing.T) {
	catalogs := [][]int{{1, 4, 6}, {2, 3, 5, 7}}
	x := made(t, catalogs...)
	clear(catalogs[0])
	clear(catalogs[1])
	for _, l := range x.Lists() {
		clear(l)
	}
	r, _ := x.Search(5)
	clear(r)
	if l := x.Lists(); !slices.EqualFunc(l, [][]int{{1, 3, 4, 6, 7}, {2, 3, 5, 7}}, slices.Equal[[]int]) {
		t.Error(l)
	}
	if r, _ := x.Search(5); !slices.Equal(r, []int{2, 2}) {
		t.Error(r)
	}
}

func TestNil(t *testing.T) {
	var x *cascading.Index
	if x.Len() != 0 || x.Compares() != 0 || x.Size() != 0 || len(x.Lists()) != 0 {
		t.Error("values")
	}
	if r, err := x.Search(1); len(r) != 0 || err != api.ErrArg {
		t.Error(r, err)
	}
	if r, err := (&cascading.Index{}).Search(1); len(r) != 0 || err != api.OK {
		t.Error(r, err)
	}
}
