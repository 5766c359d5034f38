package term_test

import (
	"slices"
	"testing"

	"heartwood/api"
	"heartwood/term"
)

// P2.2

func wantVars(t *testing.T, x api.Term, want ...api.Field) {
	t.Helper()
	l, err := term.Vars(x)
	if err != api.OK || !slices.Equal(l, want) {
		t.Errorf("Vars(%v) = %v %v, want %v", x, l, err, want)
	}
}

func TestVars(t *testing.T) {
	wantVars(t, zero())
	wantVars(t, s(nat("X")), api.Field{Name: "X", Type: "nat"})
	wantVars(t, variable("a", "b"), api.Field{Name: "a", Type: "b"})
	wantVars(t, op("f", nat("b"), op("g", variable("a", "flag"), nat("b")), variable("B", "pile"), op("c"), nat("a_")),
		api.Field{Name: "B", Type: "pile"}, api.Field{Name: "a", Type: "flag"}, api.Field{Name: "a_", Type: "nat"}, api.Field{Name: "b", Type: "nat"})
	wantVars(t, op("x", variable("x10", "p"), variable("x9", "p"), variable("x", "p")),
		api.Field{Name: "x", Type: "p"}, api.Field{Name: "x10", Type: "p"}, api.Field{Name: "x9", Type: "p"})
	wantVars(t, bush(api.MaxSize, nat("x")), api.Field{Name: "x", Type: "nat"})
}

func wantMeasures(t *testing.T, x api.Term, size, depth int) {
	t.Helper()
	if n := term.Size(x); n != size {
		t.Errorf("Size(%v) = %d, want %d", x, n, size)
	}
	if n := term.Depth(x); n != depth {
		t.Errorf("Depth(%v) = %d, want %d", x, n, depth)
	}
}

func TestSizeAndDepth(t *testing.T) {
	wantMeasures(t, s(nat("X")), 2, 2)
	wantMeasures(t, zero(), 1, 1)
	wantMeasures(t, nat("x"), 1, 1)
	wantMeasures(t, op("f", zero(), s(s(nat("x"))), zero()), 6, 4)
	wantMeasures(t, op("f", s(s(nat("x"))), nat("x")), 5, 4)
	wantMeasures(t, tower(api.MaxNest-1, nat("x")), api.MaxNest, api.MaxNest)
	wantMeasures(t, bush(7, zero()), 7, 2)
	wantMeasures(t, op(longName('a'), variable(longName('b'), longName('c'))), 2, 2)
	if n := term.Size(bush(api.MaxSize, zero())); n != api.MaxSize {
		t.Error(n)
	}
	wantMeasures(t, shared(5), 31, 5)
	wantMeasures(t, shared(9), 511, 9)
	wantMeasures(t, shared(10), 0, 0)
}

func TestMeasuresOfWrongTerms(t *testing.T) {
	for name, x := range wrong() {
		if l, err := term.Vars(x); len(l) != 0 || err != api.ErrArg {
			t.Errorf("%s: Vars = %v %v", name, l, err)
		}
		if term.Size(x) != 0 || term.Depth(x) != 0 {
			t.Errorf("%s: Size = %d, Depth = %d", name, term.Size(x), term.Depth(x))
		}
	}
}

// P2.3: At

func wantAt(t *testing.T, x api.Term, path []int, want api.Term) {
	t.Helper()
	if u, err := term.At(x, path); err != api.OK || !same(u, want) {
		t.Errorf("At(%v, %v) = %v %v, want %v", x, path, u, err, want)
	}
}

func TestAt(t *testing.T) {
	x := op("f", nat("a"), op("g", zero(), s(nat("b"))))
	wantAt(t, s(nat("X")), []int{0}, nat("X"))
	wantAt(t, x, nil, x)
	wantAt(t, x, []int{}, x)
	wantAt(t, x, []int{0}, nat("a"))
	wantAt(t, x, []int{1}, op("g", zero(), s(nat("b"))))
	wantAt(t, x, []int{1, 1}, s(nat("b")))
	wantAt(t, x, []int{1, 1, 0}, nat("b"))
	wantAt(t, tower(api.MaxNest-1, nat("x")), make([]int, api.MaxNest-1), nat("x"))
}

// nowhere has paths that lead nowhere in s(X:nat).
func nowhere() [][]int {
	return [][]int{{1}, {-1}, {0, 0}, {0, -1}, {1, 0}, {1 << 62}, {-1 << 63}, make([]int, 1<<16)}
}

func TestPathsThatLeadNowhere(t *testing.T) {
	for _, path := range nowhere() {
		if u, err := term.At(s(nat("X")), path); !isZero(u) || err != api.ErrRange {
			t.Errorf("At(%.40v) = %v %v", path, u, err)
		}
		if u, err := term.Replace(s(nat("X")), path, zero()); !isZero(u) || err != api.ErrRange {
			t.Errorf("Replace(%.40v) = %v %v", path, u, err)
		}
	}
}

func TestAtOfWrongTerms(t *testing.T) {
	for name, x := range wrong() {
		for _, path := range [][]int{nil, {0}, {7}, {-1}} {
			if u, err := term.At(x, path); !isZero(u) || err != api.ErrArg {
				t.Errorf("%s: At(%v) = %v %v", name, path, u, err)
			}
		}
	}
}

func TestAtIsNew(t *testing.T) {
	x := op("f", s(nat("a")), s(zero()))
	before := clone(x)
	for _, path := range [][]int{nil, {0}, {1}} {
		u, _ := term.At(x, path)
		spoil(u)
		if !same(x, before) {
			t.Fatalf("%v has become %v", before, x)
		}
	}
	u, _ := term.At(x, []int{0})
	spoil(x)
	if !same(u, s(nat("a"))) {
		t.Error(u)
	}
	// Parts of one result share no memory either.
	u, _ = term.At(shared(4), nil)
	spoil(u.L[0])
	if !same(u.L[1], shared(3)) {
		t.Error(u)
	}
}

// P2.3: Replace

func wantReplace(t *testing.T, x api.Term, path []int, u, want api.Term) {
	t.Helper()
	beforeX, beforeU, beforePath := clone(x), clone(u), slices.Clone(path)
	if r, err := term.Replace(x, path, u); err != api.OK || !same(r, want) {
		t.Errorf("Replace(%v, %v, %v) = %v %v, want %v", x, path, u, r, err, want)
	}
	if !same(x, beforeX) || !same(u, beforeU) || !slices.Equal(path, beforePath) {
		t.Errorf("Replace has changed %v, %v, or %v", beforeX, beforeU, beforePath)
	}
}

func TestReplace(t *testing.T) {
	x := op("f", nat("a"), op("g", zero(), s(nat("b"))))
	wantReplace(t, x, nil, zero(), zero())
	wantReplace(t, x, []int{}, nat("c"), nat("c"))
	wantReplace(t, x, []int{0}, s(zero()), op("f", s(zero()), op("g", zero(), s(nat("b")))))
	wantReplace(t, x, []int{1}, nat("a"), op("f", nat("a"), nat("a")))
	wantReplace(t, x, []int{1, 0}, x, op("f", nat("a"), op("g", x, s(nat("b")))))
	wantReplace(t, x, []int{1, 1, 0}, x, op("f", nat("a"), op("g", zero(), s(x))))
	wantReplace(t, s(nat("X")), []int{0}, s(nat("X")), s(s(nat("X"))))
}

func wantNoReplace(t *testing.T, x api.Term, path []int, u api.Term, want api.Errno) {
	t.Helper()
	if r, err := term.Replace(x, path, u); !isZero(r) || err != want {
		t.Errorf("Replace at %v = %v %v, want %v", path, r, err, want)
	}
}

func TestReplaceByTooMuch(t *testing.T) {
	half := bush(api.MaxSize/2, zero())
	if r, err := term.Replace(op("f", half, zero()), []int{1}, bush(api.MaxSize/2-1, zero())); err != api.OK || term.Size(r) != api.MaxSize {
		t.Error(term.Size(r), err)
	}
	wantNoReplace(t, op("f", half, zero()), []int{1}, half, api.ErrFull)
	most := bush(api.MaxSize, zero())
	wantReplace(t, most, nil, most, most)
	wantNoReplace(t, s(zero()), []int{0}, most, api.ErrFull)
	deepest := tower(api.MaxNest-1, zero())
	wantReplace(t, s(zero()), []int{0}, deepest.L[0], deepest)
	wantNoReplace(t, s(zero()), []int{0}, deepest, api.ErrFull)
	wantNoReplace(t, deepest, make([]int, api.MaxNest-1), s(zero()), api.ErrFull)
	wantReplace(t, deepest, make([]int, api.MaxNest-1), nat("x"), tower(api.MaxNest-1, nat("x")))
	wantReplace(t, deepest, make([]int, api.MaxNest-2), zero(), tower(api.MaxNest-2, zero()))
}

func TestReplaceByOtherSorts(t *testing.T) {
	other := variable("x", "flag")
	wantNoReplace(t, op("f", nat("x"), nat("y")), []int{1}, other, api.ErrType)
	wantNoReplace(t, op("f", nat("x"), nat("x")), []int{0}, other, api.ErrType)
	wantNoReplace(t, op("f", zero(), s(nat("x"))), []int{0}, op("g", zero(), other), api.ErrType)
	// What has been replaced does not count.
	wantReplace(t, op("f", nat("x"), nat("y")), []int{0}, other, op("f", other, nat("y")))
	wantReplace(t, op("f", s(nat("x")), nat("y")), []int{0}, s(other), op("f", s(other), nat("y")))
	wantReplace(t, nat("x"), nil, other, other)
}

func TestFirstErrorOfReplace(t *testing.T) {
	for name, x := range wrong() {
		for _, path := range [][]int{nil, {0}, {9}} {
			if r, err := term.Replace(x, path, zero()); !isZero(r) || err != api.ErrArg {
				t.Errorf("%s: Replace in it = %v %v", name, r, err)
			}
			if r, err := term.Replace(s(zero()), path, x); !isZero(r) || err != api.ErrArg {
				t.Errorf("%s: Replace by it = %v %v", name, r, err)
			}
		}
	}
	most := bush(api.MaxSize, nat("x"))
	wantNoReplace(t, most, []int{0, 0, 0, 0, 0, 0, 0, 0, 0, 0}, most, api.ErrRange)
	wantNoReplace(t, op("f", zero(), variable("x", "flag")), []int{0}, most, api.ErrFull)
	wantNoReplace(t, op("f", zero(), variable("x", "flag")), []int{2}, nat("x"), api.ErrRange)
	wantNoReplace(t, op("f", zero(), variable("x", "flag")), []int{0}, tower(api.MaxNest-1, nat("x")), api.ErrFull)
}

func TestReplaceIsNew(t *testing.T) {
	x, u := op("f", s(nat("a")), s(zero())), op("g", s(nat("b")))
	want := op("f", s(nat("a")), s(op("g", s(nat("b")))))
	r, _ := term.Replace(x, []int{1, 0}, u)
	spoil(x)
	spoil(u)
	if !same(r, want) {
		t.Errorf("%v has become %v", want, r)
	}
	x, u = op("f", s(nat("a")), s(zero())), op("g", s(nat("b")))
	for _, path := range [][]int{nil, {0}, {1, 0}} {
		r, _ = term.Replace(x, path, u)
		spoil(r)
		if !same(x, op("f", s(nat("a")), s(zero()))) || !same(u, op("g", s(nat("b")))) {
			t.Fatal(x, u)
		}
	}
}

// P2.4

func wantCompare(t *testing.T, a, b api.Term, want int) {
	t.Helper()
	if c, err := term.Compare(a, b); c != want || err != api.OK {
		t.Errorf("Compare(%v, %v) = %d %v, want %d", a, b, c, err, want)
	}
	if c, err := term.Compare(b, a); c != -want || err != api.OK {
		t.Errorf("Compare(%v, %v) = %d %v, want %d", b, a, c, err, -want)
	}
}

// ascending is a list of terms, each of which comes before the next ones.
func ascending() []api.Term {
	return []api.Term{
		variable("A", "z"), variable("a", "Z"), variable("a", "a"), variable("a", "a1"), variable("a", "a_"), variable("a", "b"),
		variable("aa", "a"), variable("b", "a"), variable("z", "a"),
		op("A"), op("a"), op("a", variable("z", "z")), op("a", op("a")), op("a", op("a", op("a"))), op("a", op("b")),
		op("a", variable("a", "a"), variable("a", "a")), op("a", op("a"), variable("a", "a")), op("a", op("a"), op("a")),
		op("a", op("a"), op("b")), op("a", op("a", op("a"), op("a")), op("a")), op("a", op("b"), op("a")), op("a", op("b"), op("b", op("a"))),
		op("a", variable("a", "a"), variable("a", "a"), variable("a", "a")),
		op("a1"), op("aa"), op("b", variable("a", "a")),
	}
}

func TestCompare(t *testing.T) {
	l := ascending()
	for i, a := range l {
		for j, b := range l {
			want := 0
			if i < j {
				want = -1
			} else if i > j {
				want = 1
			}
			wantCompare(t, a, b, want)
		}
		wantCompare(t, tower(50, a), tower(50, clone(a)), 0)
	}
	// Terms are compared one by one: their variables may have other sorts.
	wantCompare(t, nat("x"), variable("x", "flag"), 1)
	wantCompare(t, api.Term{Name: "a", L: []api.Term{}}, op("a"), 0)
	most := bush(api.MaxSize, nat("x"))
	wantCompare(t, most, clone(most), 0)
	wantCompare(t, bush(api.MaxSize, nat("x")), bush(api.MaxSize, nat("y")), -1)
}

func TestCompareOfWrongTerms(t *testing.T) {
	for name, x := range wrong() {
		for _, c := range [][2]api.Term{{x, zero()}, {zero(), x}, {x, x}} {
			if n, err := term.Compare(c[0], c[1]); n != 0 || err != api.ErrArg {
				t.Errorf("%s: Compare = %d %v", name, n, err)
			}
		}
	}
}

// P2.7

func TestCompareIsATotalOrder(t *testing.T) {
	l := small()
	rank := slices.Clone(l)
	slices.SortStableFunc(rank, func(a, b api.Term) int {
		c, _ := term.Compare(a, b)
		return c
	})
	for i, a := range rank {
		for j, b := range rank {
			want := 0
			if i < j {
				want = -1
			} else if i > j {
				want = 1
			}
			if c, err := term.Compare(a, b); c != want || err != api.OK {
				t.Fatalf("Compare(%v, %v) = %d %v, want %d", a, b, c, err, want)
			}
			if same(a, b) != (i == j) {
				t.Fatalf("%v stands twice", a)
			}
		}
	}
}

func TestWhatIsReplacedStandsThere(t *testing.T) {
	terms := someTerms()
	for sort, l := range terms {
		for i, x := range l {
			y := l[(i+1)%len(l)]
			for _, path := range places(x) {
				checkReplacement(t, sort, x, path, y, terms)
			}
		}
	}
}

// checkReplacement puts a term of the sort of the subterm at a path there, and looks at all nodes of the result.
func checkReplacement(t *testing.T, sort string, x api.Term, path []int, y api.Term, terms map[string][]api.Term) {
	t.Helper()
	own, err := term.Sort(mixed(), walk(x, path))
	if err != api.OK {
		t.Fatal(err)
	}
	u := terms[own][(len(path)+len(y.L))%len(terms[own])]
	r, err := term.Replace(x, path, u)
	if err != api.OK {
		t.Fatalf("Replace(%v, %v, %v): %v", x, path, u, err)
	}
	wantAt(t, r, path, u)
	for _, other := range places(x) {
		if !slices.Equal(other[:min(len(other), len(path))], path[:min(len(other), len(path))]) {
			wantAt(t, r, other, walk(x, other))
		}
	}
	wantSort(t, mixed(), r, sort, api.OK)
	if term.Size(r) != term.Size(x)-term.Size(walk(x, path))+term.Size(u) {
		t.Errorf("Size(%v) = %d", r, term.Size(r))
	}
}

// Rules: nothing depends on the order of a map, or is kept from call to call.
func TestSameCallsHaveSameResults(t *testing.T) {
	x := op("f", nat("c"), nat("a"), nat("b"), nat("e"), nat("d"), nat("A"))
	for range 20 {
		wantVars(t, x, api.Field{Name: "A", Type: "nat"}, api.Field{Name: "a", Type: "nat"}, api.Field{Name: "b", Type: "nat"},
			api.Field{Name: "c", Type: "nat"}, api.Field{Name: "d", Type: "nat"}, api.Field{Name: "e", Type: "nat"})
		l, _ := term.Vars(x)
		clear(l)
	}
}
