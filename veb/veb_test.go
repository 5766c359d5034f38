package veb_test

import (
	"slices"
	"testing"

	"heartwood/api"
	"heartwood/veb"
)

func made(t *testing.T, bits int, l ...int) *veb.Set {
	t.Helper()
	s, err := veb.New(bits)
	if err != api.OK || s == nil {
		t.Fatal(bits, err)
	}
	for _, x := range l {
		if _, err := s.Insert(x); err != api.OK {
			t.Fatal(bits, x, err)
		}
	}
	return s
}

// numbers yields numbers by a fixed rule.
type numbers int

func (n *numbers) below(limit int) int {
	*n = *n * 48271 % 2147483647
	return int(*n) % limit
}

func heightOf(bits int) int {
	h := 0
	for 1<<h < bits {
		h++
	}
	return h + 1
}

// checkSteps checks what P26.4 says after a call.
func checkSteps(t *testing.T, s *veb.Set, bits int) {
	t.Helper()
	if n := s.Steps(); n < 1 || n > 6*heightOf(bits) {
		t.Fatal(bits, n)
	}
}

// checkAround compares neighbours of a number, for a sorted list of the elements.
func checkAround(t *testing.T, s *veb.Set, l []int, bits, x int) {
	t.Helper()
	i, found := slices.BinarySearch(l, x)
	below, above := i-1, i
	if found {
		above++
	}
	y, err := s.Next(x)
	checkSteps(t, s, bits)
	if above < len(l) && (y != l[above] || err != api.OK) || above == len(l) && (y != 0 || err != api.ErrNone) {
		t.Fatal("Next", bits, x, y, err, l)
	}
	y, err = s.Prev(x)
	checkSteps(t, s, bits)
	if below >= 0 && (y != l[below] || err != api.OK) || below < 0 && (y != 0 || err != api.ErrNone) {
		t.Fatal("Prev", bits, x, y, err, l)
	}
	if x < 0 || x >= 1<<bits {
		return
	}
	ok, err := s.Contains(x)
	checkSteps(t, s, bits)
	if ok != found || err != api.OK {
		t.Fatal("Contains", bits, x, ok, err, l)
	}
}

func checkAll(t *testing.T, s *veb.Set, l []int, bits int) {
	t.Helper()
	if s.Len() != len(l) || !slices.Equal(s.List(), l) {
		t.Fatal(bits, s.List(), l)
	}
	least, err1 := s.Min()
	greatest, err2 := s.Max()
	if len(l) == 0 {
		if least != 0 || greatest != 0 || err1 != api.ErrEmpty || err2 != api.ErrEmpty {
			t.Fatal(bits, least, greatest, err1, err2)
		}
	} else if least != l[0] || greatest != l[len(l)-1] || err1 != api.OK || err2 != api.OK {
		t.Fatal(bits, least, greatest, err1, err2)
	}
}

// P26.1 to P26.4: random operations, against a sorted list.
func TestSets(t *testing.T) {
	for bits := 1; bits <= 20; bits++ {
		n := numbers(bits)
		s := made(t, bits)
		var l []int
		checkAll(t, s, l, bits)
		for round := range 600 {
			x := n.below(1 << bits)
			switch {
			case len(l) > 0 && n.below(3) == 0:
				x = l[n.below(len(l))]
			case n.below(2) == 0:
				// Numbers that are near to one another, in few clusters.
				x = min(n.below(20)+(1<<bits)/3, 1<<bits-1)
			}
			i, found := slices.BinarySearch(l, x)
			if grow := round%200 < 120; n.below(4) > 0 == grow {
				ok, err := s.Insert(x)
				if ok == found || err != api.OK {
					t.Fatal("Insert", bits, x, ok, err)
				}
				if !found {
					l = slices.Insert(l, i, x)
				}
			} else {
				ok, err := s.Delete(x)
				if ok != found || err != api.OK {
					t.Fatal("Delete", bits, x, ok, err)
				}
				if found {
					l = slices.Delete(l, i, i+1)
				}
			}
			checkSteps(t, s, bits)
			if round%7 == 0 {
				checkAll(t, s, l, bits)
			}
			for _, y := range []int{x, x - 1, x + 1, n.below(1 << bits)} {
				checkAround(t, s, l, bits, y)
			}
		}
		for _, y := range []int{-1, -1 << 63, 1<<bits - 1, 1 << bits, 1<<63 - 1, 0} {
			checkAround(t, s, l, bits, y)
		}
		emptied(t, s, l, bits)
	}
}

// emptied takes out all elements, and puts some in again.
func emptied(t *testing.T, s *veb.Set, l []int, bits int) {
	t.Helper()
	for i, x := range l {
		if i%2 == 0 {
			s.Delete(x)
		}
	}
	for i, x := range l {
		if i%2 == 1 {
			s.Delete(x)
		}
	}
	checkAll(t, s, nil, bits)
	checkAround(t, s, nil, bits, 0)
	s.Insert(1)
	checkAll(t, s, []int{1}, bits)
}

// All subsets of a small universe.
func TestSmallUniverses(t *testing.T) {
	for bits := 1; bits <= 3; bits++ {
		size := 1 << bits
		for mask := range 1 << size {
			s := made(t, bits)
			var l []int
			for x := range size {
				if mask>>x&1 == 1 {
					l = append(l, x)
					s.Insert(size - 1 - x)
				}
			}
			for i := range l {
				l[i] = size - 1 - l[i]
			}
			slices.Sort(l)
			checkAll(t, s, l, bits)
			for x := -2; x <= size+1; x++ {
				checkAround(t, s, l, bits, x)
			}
		}
	}
}

func TestExample(t *testing.T) {
	s := made(t, 4, 3, 9, 14)
	if x, err := s.Next(3); x != 9 || err != api.OK {
		t.Error(x, err)
	}
	if x, err := s.Next(14); x != 0 || err != api.ErrNone {
		t.Error(x, err)
	}
	if x, err := s.Prev(9); x != 3 || err != api.OK {
		t.Error(x, err)
	}
	s.Delete(3)
	if x, err := s.Min(); x != 9 || err != api.OK {
		t.Error(x, err)
	}
}

func TestErrors(t *testing.T) {
	for _, bits := range []int{0, -1, 21, 64, 1 << 40} {
		if s, err := veb.New(bits); s != nil || err != api.ErrRange {
			t.Error(bits, err)
		}
	}
	for _, bits := range []int{1, 6, 7, 20} {
		s := made(t, bits, 0, 1<<bits-1)
		s.Contains(0)
		steps := s.Steps()
		for _, x := range []int{-1, 1 << bits, 1<<bits + 1, 1<<63 - 1, -1 << 63} {
			for i, f := range []func(int) (bool, api.Errno){s.Insert, s.Delete, s.Contains} {
				if ok, err := f(x); ok || err != api.ErrRange {
					t.Error(bits, i, x, ok, err)
				}
			}
		}
		checkAll(t, s, []int{0, 1<<bits - 1}, bits)
		if s.Steps() != steps {
			t.Error("an error has changed the steps")
		}
	}
}

// P26.5: the order does not matter; Prev is the inverse of Next.
func TestLaws(t *testing.T) {
	n := numbers(4)
	for _, bits := range []int{5, 12, 20} {
		var l []int
		for range 200 {
			l = append(l, n.below(1<<bits))
		}
		a := made(t, bits, l...)
		slices.Reverse(l)
		b := made(t, bits, l...)
		extra := n.below(1 << bits)
		had, _ := b.Contains(extra)
		b.Insert(extra)
		b.Delete(extra)
		if had {
			b.Insert(extra)
		}
		if !slices.Equal(a.List(), b.List()) || a.Len() != b.Len() {
			t.Fatal(bits)
		}
		x, _ := a.Min()
		list := []int{x}
		for {
			y, err := a.Next(x)
			if err != api.OK {
				break
			}
			if back, err := a.Prev(y); back != x || err != api.OK {
				t.Fatal(x, y, back, err)
			}
			list = append(list, y)
			x = y
		}
		if !slices.Equal(list, a.List()) {
			t.Fatal(list, a.List())
		}
		spoilt := a.List()
		clear(spoilt)
		if !slices.Equal(list, a.List()) {
			t.Fatal("results share memory")
		}
	}
}

// The greatest set: steps stay few, however many elements there are.
func TestFullUniverse(t *testing.T) {
	s := made(t, 20)
	for x := range 1 << 20 {
		if x%3 != 1 {
			s.Insert(x * 7 % (1 << 20))
			checkSteps(t, s, 20)
		}
	}
	for x := range 1 << 20 {
		if x%1000 == 0 {
			s.Next(x)
			checkSteps(t, s, 20)
			s.Delete(x)
			checkSteps(t, s, 20)
		}
	}
	if s.Len() < 600000 || len(s.List()) != s.Len() {
		t.Error(s.Len())
	}
}

func TestNil(t *testing.T) {
	var s *veb.Set
	if s.Len() != 0 || s.Steps() != 0 || len(s.List()) != 0 {
		t.Error("values")
	}
	for _, x := range []int{-1, 0} {
		for _, f := range []func(int) (bool, api.Errno){s.Insert, s.Delete, s.Contains} {
			if ok, err := f(x); ok || err != api.ErrArg {
				t.Error(ok, err)
			}
		}
		for _, f := range []func(int) (int, api.Errno){s.Next, s.Prev} {
			if y, err := f(x); y != 0 || err != api.ErrArg {
				t.Error(y, err)
			}
		}
	}
	for _, f := range []func() (int, api.Errno){s.Min, s.Max} {
		if y, err := f(); y != 0 || err != api.ErrArg {
			t.Error(y, err)
		}
	}
	s = &veb.Set{}
	if _, err := s.Insert(0); err != api.ErrRange || s.Len() != 0 {
		t.Error(err)
	}
	if _, err := s.Next(0); err != api.ErrNone {
		t.Error(err)
	}
}
