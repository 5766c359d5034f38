package orderlist_test

import (
	"cmp"
	"slices"
	"testing"

	"heartwood/api"
	"heartwood/orderlist"
	"heartwood/ratio"
)

// numbers yields numbers by a fixed rule.
type numbers int

func (n *numbers) below(limit int) int {
	*n = *n * 48271 % 2147483647
	return int(*n) % limit
}

// oracle is the order of a list, and how many elements have been inserted.
type oracle struct {
	order    []int
	inserted int
}

func (o *oracle) insert(x int) int {
	o.order = slices.Insert(o.order, slices.Index(o.order, x)+1, o.inserted)
	o.inserted++
	return o.inserted - 1
}

func (o *oracle) remove(x int) {
	i := slices.Index(o.order, x)
	o.order = slices.Delete(o.order, i, i+1)
}

func check(t *testing.T, l *orderlist.List, o *oracle) {
	t.Helper()
	if l.Len() != len(o.order) || !slices.Equal(l.Order(), o.order) {
		t.Fatal(l.Order(), o.order)
	}
	last := -1
	for i, x := range o.order {
		label, err := l.Label(x)
		if err != api.OK || label <= last || label > api.MaxInt {
			t.Fatal("Label", x, label, last, err)
		}
		last = label
		next, err := l.Next(x)
		if i == len(o.order)-1 && (next != 0 || err != api.ErrEnd) || i < len(o.order)-1 && (next != o.order[i+1] || err != api.OK) {
			t.Fatal("Next", x, next, err)
		}
	}
	first, err := l.Next(-1)
	if len(o.order) == 0 && (first != 0 || err != api.ErrEnd) || len(o.order) > 0 && (first != o.order[0] || err != api.OK) {
		t.Fatal("Next", first, err)
	}
	checkMoves(t, l, o.inserted)
}

func checkMoves(t *testing.T, l *orderlist.List, inserted int) {
	t.Helper()
	limit := 0
	if inserted > 0 {
		log, _ := ratio.FloorLog(inserted)
		limit = 8 * inserted * (log + 1)
	}
	if m := l.Moves(); m < 0 || m > limit {
		t.Fatal("Moves", m, inserted)
	}
}

// compareAll compares all pairs, and asks for elements that are not there.
func compareAll(t *testing.T, l *orderlist.List, o *oracle) {
	t.Helper()
	for x := -2; x < o.inserted+2; x++ {
		i := slices.Index(o.order, x)
		if l.Contains(x) != (i >= 0) {
			t.Fatal("Contains", x)
		}
		if i < 0 {
			wantNone(t, l, x)
		}
		for y := -2; y < o.inserted+2; y++ {
			k := slices.Index(o.order, y)
			c, err := l.Compare(x, y)
			if i < 0 || k < 0 {
				if c != 0 || err != api.ErrNone {
					t.Fatal("Compare", x, y, c, err)
				}
			} else if c != cmp.Compare(i, k) || err != api.OK {
				t.Fatal("Compare", x, y, c, err)
			}
		}
	}
}

// wantNone asks for an element that is not in the list.
func wantNone(t *testing.T, l *orderlist.List, x int) {
	t.Helper()
	if err := l.Delete(x); err != api.ErrNone {
		t.Fatal("Delete", x, err)
	}
	if n, err := l.Label(x); n != 0 || err != api.ErrNone {
		t.Fatal("Label", x, n, err)
	}
	if x == -1 {
		return
	}
	if n, err := l.Next(x); n != 0 || err != api.ErrNone {
		t.Fatal("Next", x, n, err)
	}
	if n, err := l.InsertAfter(x); n != 0 || err != api.ErrNone {
		t.Fatal("InsertAfter", x, n, err)
	}
}

func insert(t *testing.T, l *orderlist.List, o *oracle, x int) {
	t.Helper()
	want := o.insert(x)
	if n, err := l.InsertAfter(x); n != want || err != api.OK {
		t.Fatal("InsertAfter", x, n, err)
	}
}

// P28.1 to P28.3: random operations, against a list.
func TestLists(t *testing.T) {
	n := numbers(6)
	for range 8 {
		l, o := orderlist.New(), &oracle{}
		check(t, l, o)
		for i := range 120 {
			x := -1
			if len(o.order) > 0 && n.below(5) > 0 {
				x = o.order[n.below(len(o.order))]
			}
			if x >= 0 && n.below(3) == 0 {
				if err := l.Delete(x); err != api.OK {
					t.Fatal(err)
				}
				o.remove(x)
			} else {
				insert(t, l, o, x)
			}
			check(t, l, o)
			if i%30 == 0 {
				compareAll(t, l, o)
			}
		}
	}
}

// P28.4: the most insertions, at places where the gaps become small.
func TestMoves(t *testing.T) {
	n := numbers(9)
	places := map[string]func(o *oracle) int{
		"front":  func(o *oracle) int { return -1 },
		"back":   func(o *oracle) int { return o.inserted - 1 },
		"first":  func(o *oracle) int { return min(0, o.inserted-1) },
		"middle": func(o *oracle) int { return append([]int{-1}, o.order...)[(len(o.order)+1)/2] },
		"one":    func(o *oracle) int { return append([]int{-1}, o.order...)[min(len(o.order), 700)] },
		"random": func(o *oracle) int { return append([]int{-1}, o.order...)[n.below(len(o.order)+1)] },
		"turns": func(o *oracle) int {
			if o.inserted < 2 {
				return o.inserted - 1
			}
			return []int{0, o.inserted - 1}[o.inserted%2]
		},
	}
	for name, place := range places {
		l, o := orderlist.New(), &oracle{}
		for i := range api.MaxOps {
			insert(t, l, o, place(o))
			checkMoves(t, l, o.inserted)
			if i%250 == 0 {
				check(t, l, o)
			}
		}
		check(t, l, o)
		for _, x := range []int{-1, 0} {
			if n, err := l.InsertAfter(x); n != 0 || err != api.ErrFull {
				t.Error(name, n, err)
			}
		}
		if n, err := l.InsertAfter(api.MaxOps); n != 0 || err != api.ErrNone {
			t.Error(name, n, err)
		}
		check(t, l, o)
		// What was deleted counts as inserted, too.
		if l.Delete(5) != api.OK {
			t.Error(name)
		}
		if n, err := l.InsertAfter(-1); n != 0 || err != api.ErrFull {
			t.Error(name, n, err)
		}
	}
}

// A move is counted if, and only if, a label changes.
func TestMovesAreChanges(t *testing.T) {
	l, o := orderlist.New(), &oracle{}
	labels := map[int]int{}
	changes := 0
	for i := range 300 {
		insert(t, l, o, min(0, o.inserted-1))
		for _, x := range o.order {
			label, _ := l.Label(x)
			if old, known := labels[x]; known && old != label {
				changes++
			}
			labels[x] = label
		}
		if l.Moves() != changes {
			t.Fatal(i, l.Moves(), changes)
		}
		if i%9 == 8 {
			l.Delete(o.order[5])
			o.remove(o.order[5])
		}
	}
	if changes == 0 {
		t.Error("no moves")
	}
}

func TestExample(t *testing.T) {
	l := orderlist.New()
	for i, x := range []int{-1, 0, 0, -1} {
		if n, err := l.InsertAfter(x); n != i || err != api.OK {
			t.Error(n, err)
		}
	}
	if !slices.Equal(l.Order(), []int{3, 0, 2, 1}) {
		t.Error(l.Order())
	}
	if c, err := l.Compare(2, 1); c != -1 || err != api.OK {
		t.Error(c, err)
	}
	if err := l.Delete(0); err != api.OK {
		t.Error(err)
	}
	if n, err := l.Next(3); n != 2 || err != api.OK {
		t.Error(n, err)
	}
	if c, err := l.Compare(0, 2); c != 0 || err != api.ErrNone {
		t.Error(c, err)
	}
	order := l.Order()
	order[0] = 99
	if !slices.Equal(l.Order(), []int{3, 2, 1}) {
		t.Error(l.Order())
	}
	// A number is never used again.
	if n, err := l.InsertAfter(3); n != 4 || err != api.OK {
		t.Error(n, err)
	}
}

// P28.5: other insertions and deletions do not change how two elements compare.
func TestOrderStays(t *testing.T) {
	n := numbers(3)
	l, o := orderlist.New(), &oracle{}
	for range 40 {
		insert(t, l, o, o.inserted-1)
	}
	for range 1000 {
		x := o.order[n.below(len(o.order))]
		if x >= 40 && n.below(2) == 0 {
			l.Delete(x)
			o.remove(x)
		} else {
			insert(t, l, o, x)
		}
		a, b := n.below(40), n.below(40)
		if c, err := l.Compare(a, b); c != cmp.Compare(a, b) || err != api.OK {
			t.Fatal(a, b, c, err)
		}
		x, _ = l.Label(a)
		y, _ := l.Label(b)
		if cmp.Compare(x, y) != cmp.Compare(a, b) {
			t.Fatal(a, b, x, y)
		}
	}
}

func TestNil(t *testing.T) {
	var l *orderlist.List
	if l.Len() != 0 || l.Moves() != 0 || len(l.Order()) != 0 || l.Contains(0) {
		t.Error("values")
	}
	for _, x := range []int{-1, 0} {
		if n, err := l.InsertAfter(x); n != 0 || err != api.ErrArg {
			t.Error(n, err)
		}
		if n, err := l.Next(x); n != 0 || err != api.ErrArg {
			t.Error(n, err)
		}
		if n, err := l.Label(x); n != 0 || err != api.ErrArg {
			t.Error(n, err)
		}
		if n, err := l.Compare(x, x); n != 0 || err != api.ErrArg {
			t.Error(n, err)
		}
		if err := l.Delete(x); err != api.ErrArg {
			t.Error(err)
		}
	}
	if l := orderlist.New(); l == nil || l.Len() != 0 || l.Moves() != 0 {
		t.Error("empty")
	}
}
