package fingertree_test

import (
	"math/bits"
	"slices"
	"testing"

	"heartwood/api"
	"heartwood/fingertree"
)

func made(t *testing.T, l ...int) *fingertree.Tree {
	t.Helper()
	x, err := fingertree.Make(l)
	if err != api.OK || x == nil {
		t.Fatal(err)
	}
	return x
}

// numbers yields numbers by a fixed rule.
type numbers int

func (n *numbers) below(limit int) int {
	*n = *n * 48271 % 2147483647
	return int(*n) % limit
}

// checkForm checks the elements, the depth, and the shape.
func checkForm(t *testing.T, x *fingertree.Tree, want []int) {
	t.Helper()
	if x.Len() != len(want) || !slices.Equal(x.List(), want) {
		t.Fatal(x.List(), want)
	}
	log := max(bits.Len(uint(len(want)))-1, 0)
	if d := x.Depth(); d < 0 || d > 2*log+2 {
		t.Fatal("Depth", d, len(want))
	}
	shape := x.Shape()
	sum := 0
	for _, n := range shape {
		if n <= 0 {
			t.Fatal("Shape", shape)
		}
		sum += n
	}
	if sum != len(want) || len(shape) > 8*(log+1) {
		t.Fatal("Shape", shape, len(want))
	}
}

// checkAll asks a tree for everything.
func checkAll(t *testing.T, x *fingertree.Tree, want []int) {
	t.Helper()
	checkForm(t, x, want)
	sums := []int{0}
	for i, v := range want {
		sums = append(sums, sums[i]+v)
		if y, err := x.At(i); y != v || err != api.OK {
			t.Fatal("At", i, y, err)
		}
	}
	for from := -1; from <= len(want)+1; from++ {
		for to := -1; to <= len(want)+1; to++ {
			n, err := x.Sum(from, to)
			if from < 0 || from > to || to > len(want) {
				if n != 0 || err != api.ErrRange {
					t.Fatal("Sum", from, to, n, err)
				}
			} else if n != sums[to]-sums[from] || err != api.OK {
				t.Fatal("Sum", from, to, n, err, want)
			}
		}
	}
	for _, i := range []int{-1, len(want), 1 << 60, -1 << 63} {
		if y, err := x.At(i); y != 0 || err != api.ErrRange {
			t.Fatal("At", i, y, err)
		}
		if y, err := x.Set(i, 1); y != nil || err != api.ErrRange {
			t.Fatal("Set", i, err)
		}
		if a, b, err := x.Split(i); i != len(want) && (a != nil || b != nil || err != api.ErrRange) {
			t.Fatal("Split", i, err)
		}
	}
	for _, s := range append([]int{-1 << 63, -5, -1, 1, 2, 5, 9, 1<<63 - 1}, sums...) {
		checkSearch(t, x, sums, s)
		checkSearch(t, x, sums, s+1)
	}
}

func checkSearch(t *testing.T, x *fingertree.Tree, sums []int, s int) {
	t.Helper()
	want := slices.IndexFunc(sums, func(n int) bool { return n >= s })
	i, err := x.Search(s)
	if want >= 0 && (i != want || err != api.OK) || want < 0 && (i != 0 || err != api.ErrNone) {
		t.Fatal("Search", s, i, err, sums)
	}
}

// kept is a tree with what must be in it for ever.
type kept struct {
	tree *fingertree.Tree
	list []int
}

// P27.1 to P27.7: random operations on trees that are kept, all of which stay as they are.
func TestTrees(t *testing.T) {
	n := numbers(8)
	all := []kept{{made(t), nil}, {made(t, 3, 1, 4), []int{3, 1, 4}}}
	for range 800 {
		x := all[n.below(len(all))]
		y := all[n.below(len(all))]
		if n.below(4) == 0 {
			y = slices.MaxFunc(all, func(a, b kept) int { return len(a.list) - len(b.list) })
		}
		for _, k := range operate(t, &n, x, y) {
			checkForm(t, k.tree, k.list)
			if len(k.list) < 40 {
				checkAll(t, k.tree, k.list)
			}
			if len(k.list) < 400 {
				all = append(all, k)
			}
		}
	}
	longest := 0
	for _, k := range all {
		checkForm(t, k.tree, k.list)
		longest = max(longest, len(k.list))
	}
	if longest < 200 {
		t.Error(longest)
	}
}

// operate does a random operation, and returns the trees that it makes.
func operate(t *testing.T, n *numbers, x, y kept) []kept {
	t.Helper()
	v := n.below(9) - 3
	wantOK := func(err api.Errno) {
		t.Helper()
		if err != api.OK {
			t.Fatal(err)
		}
	}
	switch n.below(8) {
	case 0:
		r, err := x.tree.PushFront(v)
		wantOK(err)
		return []kept{{r, append([]int{v}, x.list...)}}
	case 1:
		r, err := x.tree.PushBack(v)
		wantOK(err)
		return []kept{{r, append(slices.Clone(x.list), v)}}
	case 2, 3:
		return pop(t, x)
	case 4:
		if len(x.list) == 0 {
			return nil
		}
		i := n.below(len(x.list))
		r, err := x.tree.Set(i, v)
		wantOK(err)
		l := slices.Clone(x.list)
		l[i] = v
		return []kept{{r, l}}
	case 5, 6:
		r, err := x.tree.Concat(y.tree)
		wantOK(err)
		return []kept{{r, slices.Concat(x.list, y.list)}}
	}
	i := n.below(len(x.list) + 1)
	a, b, err := x.tree.Split(i)
	wantOK(err)
	whole, err := a.Concat(b)
	wantOK(err)
	return []kept{{a, x.list[:i]}, {b, x.list[i:]}, {whole, x.list}}
}

func pop(t *testing.T, x kept) []kept {
	t.Helper()
	first, a, err1 := x.tree.PopFront()
	last, b, err2 := x.tree.PopBack()
	if len(x.list) == 0 {
		if first != 0 || last != 0 || a != nil || b != nil || err1 != api.ErrEmpty || err2 != api.ErrEmpty {
			t.Fatal(first, last, err1, err2)
		}
		return nil
	}
	end := len(x.list) - 1
	if first != x.list[0] || last != x.list[end] || err1 != api.OK || err2 != api.OK {
		t.Fatal(first, last, err1, err2)
	}
	return []kept{{a, x.list[1:]}, {b, x.list[:end]}}
}

func TestExample(t *testing.T) {
	x := made(t, 3, 1, 4)
	if n, err := x.Sum(0, 3); n != 8 || err != api.OK {
		t.Error(n, err)
	}
	for s, want := range map[int]int{4: 2, -5: 0, 0: 0, 1: 1, 3: 1, 5: 3, 8: 3} {
		if i, err := x.Search(s); i != want || err != api.OK {
			t.Error(s, i, err)
		}
	}
	if i, err := x.Search(9); i != 0 || err != api.ErrNone {
		t.Error(i, err)
	}
	y, err := x.PushFront(2)
	if err != api.OK || !slices.Equal(y.List(), []int{2, 3, 1, 4}) || !slices.Equal(x.List(), []int{3, 1, 4}) {
		t.Error(y.List(), x.List(), err)
	}
}

// Sums of first elements need not ascend: the first one that is great enough counts.
func TestSearchWithNegativeElements(t *testing.T) {
	n := numbers(21)
	for range 200 {
		var l []int
		for range n.below(25) {
			l = append(l, n.below(11)-5)
		}
		checkAll(t, made(t, l...), l)
	}
	x := made(t, 5, -9, 6, 4, -100, 200)
	for s, want := range map[int]int{5: 1, 6: 4, 7: 6, 106: 6, 1: 1} {
		if i, err := x.Search(s); i != want || err != api.OK {
			t.Error(s, i, err)
		}
	}
}

// Trees that are built at one end, or from many parts, are not too deep.
func TestLongTrees(t *testing.T) {
	front, back, both := made(t), made(t), made(t)
	var err api.Errno
	for i := range api.MaxNodes {
		if front, err = front.PushFront(i); err != api.OK {
			t.Fatal(err)
		}
		if back, err = back.PushBack(i); err != api.OK {
			t.Fatal(err)
		}
		if i%64 == 0 {
			part := made(t, slices.Repeat([]int{i}, 64)...)
			if both, err = part.Concat(both); err != api.OK {
				t.Fatal(err)
			}
			checkForm(t, front, front.List())
			checkForm(t, back, back.List())
			checkForm(t, both, both.List())
		}
	}
	for _, x := range []*fingertree.Tree{front, back, both} {
		if x.Len() != api.MaxNodes {
			t.Fatal(x.Len())
		}
		for _, y := range []func(int) (*fingertree.Tree, api.Errno){x.PushFront, x.PushBack} {
			if r, err := y(1); r != nil || err != api.ErrFull {
				t.Error(err)
			}
			if r, err := y(api.MaxKey + 1); r != nil || err != api.ErrArg {
				t.Error(err)
			}
		}
		if r, err := x.Concat(made(t, 1)); r != nil || err != api.ErrFull {
			t.Error(err)
		}
		if r, err := made(t, 1).Concat(x); r != nil || err != api.ErrFull {
			t.Error(err)
		}
		if r, err := x.Concat(made(t)); err != api.OK || r.Len() != api.MaxNodes {
			t.Error(err)
		}
		if r, err := x.Set(5, 7); err != api.OK || r.Len() != api.MaxNodes {
			t.Error(err)
		}
		if x, y, err := x.Split(1000); err != api.OK || x.Len() != 1000 || y.Len() != api.MaxNodes-1000 {
			t.Error(err)
		}
	}
	for x := back; x.Len() > 0; {
		_, y, err := x.PopBack()
		if err != api.OK {
			t.Fatal(err)
		}
		if x = y; x.Len()%97 == 0 {
			checkForm(t, x, x.List())
		}
	}
}

// P27.1 and P27.2

func TestMake(t *testing.T) {
	l := []int{api.MaxKey, -api.MaxKey, 0}
	x := made(t, l...)
	clear(l)
	list := x.List()
	list[1] = 5
	if !slices.Equal(x.List(), []int{api.MaxKey, -api.MaxKey, 0}) {
		t.Error(x.List())
	}
	for size := range 70 {
		l := make([]int, size)
		for i := range l {
			l[i] = i * i % 7
		}
		checkAll(t, made(t, l...), l)
	}
	bad := func(l []int, want api.Errno) {
		t.Helper()
		if x, err := fingertree.Make(l); x != nil || err != want {
			t.Error(err)
		}
	}
	bad([]int{1, api.MaxKey + 1}, api.ErrArg)
	bad([]int{-api.MaxKey - 1}, api.ErrArg)
	bad(make([]int, api.MaxNodes+1), api.ErrFull)
	bad(append(make([]int, api.MaxNodes+1), 1<<60), api.ErrArg)
	most := made(t, slices.Repeat([]int{api.MaxKey}, api.MaxNodes)...)
	if n, err := most.Sum(0, api.MaxNodes); n != api.MaxNodes*api.MaxKey || err != api.OK {
		t.Error(n, err)
	}
	for _, v := range []int{api.MaxKey + 1, -api.MaxKey - 1, 1 << 62} {
		x := made(t, 1)
		if y, err := x.PushFront(v); y != nil || err != api.ErrArg {
			t.Error(err)
		}
		if y, err := x.PushBack(v); y != nil || err != api.ErrArg {
			t.Error(err)
		}
		for _, i := range []int{0, 9} {
			if y, err := x.Set(i, v); y != nil || err != api.ErrArg {
				t.Error(err)
			}
		}
	}
	if x, err := made(t, 1).PushBack(-api.MaxKey); err != api.OK || x.Len() != 2 {
		t.Error(err)
	}
}

func TestNil(t *testing.T) {
	var x *fingertree.Tree
	if x.Len() != 0 || len(x.List()) != 0 || x.Depth() != 0 || len(x.Shape()) != 0 {
		t.Error("values")
	}
	trees := func(y *fingertree.Tree, err api.Errno) {
		t.Helper()
		if y != nil || err != api.ErrArg {
			t.Error(err)
		}
	}
	trees(x.PushFront(1))
	trees(x.PushBack(1 << 60))
	trees(x.Set(9, 1))
	trees(x.Concat(made(t, 1)))
	trees(x.Concat(nil))
	trees(made(t, 1).Concat(nil))
	trees(made(t, slices.Repeat([]int{1}, api.MaxNodes)...).Concat(nil))
	ints := func(y int, err api.Errno) {
		t.Helper()
		if y != 0 || err != api.ErrArg {
			t.Error(y, err)
		}
	}
	ints(x.At(0))
	ints(x.Sum(0, 0))
	ints(x.Search(0))
	if v, y, err := x.PopFront(); v != 0 || y != nil || err != api.ErrArg {
		t.Error(err)
	}
	if v, y, err := x.PopBack(); v != 0 || y != nil || err != api.ErrArg {
		t.Error(err)
	}
	if a, b, err := x.Split(0); a != nil || b != nil || err != api.ErrArg {
		t.Error(err)
	}
	x = &fingertree.Tree{}
	checkAll(t, x, nil)
}

// P27.7

func TestLaws(t *testing.T) {
	n := numbers(2)
	list := func() []int {
		var l []int
		for range n.below(30) {
			l = append(l, n.below(100))
		}
		return l
	}
	for range 200 {
		a, b, c := made(t, list()...), made(t, list()...), made(t, list()...)
		ab, _ := a.Concat(b)
		bc, _ := b.Concat(c)
		left, _ := ab.Concat(c)
		right, _ := a.Concat(bc)
		if !slices.Equal(left.List(), right.List()) {
			t.Fatal("not associative")
		}
		i := n.below(left.Len() + 1)
		x, _ := left.Sum(0, i)
		y, _ := left.Sum(i, left.Len())
		z, _ := left.Sum(0, left.Len())
		if x+y != z {
			t.Fatal("sums")
		}
		p, _ := a.PushFront(7)
		v, q, err := p.PopFront()
		if v != 7 || err != api.OK || !slices.Equal(q.List(), a.List()) {
			t.Fatal("front")
		}
		p, _ = a.PushBack(8)
		v, q, err = p.PopBack()
		if v != 8 || err != api.OK || !slices.Equal(q.List(), a.List()) {
			t.Fatal("back")
		}
	}
}
