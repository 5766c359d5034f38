package softheap_test

import (
	"slices"
	"testing"

	"heartwood/api"
	"heartwood/softheap"
)

// numbers yields numbers by a fixed rule.
type numbers int

func (n *numbers) below(limit int) int {
	*n = *n * 48271 % 2147483647
	return int(*n) % limit
}

// tester has a heap, the own keys of all items that were inserted, and what is known of the items in the heap.
type tester struct {
	t       *testing.T
	heap    *softheap.Heap
	rate    int
	own     []int
	current map[int]int // of the items in the heap
	most    int         // of corrupted items
}

func newTester(t *testing.T, rate int) *tester {
	t.Helper()
	h, err := softheap.New(rate)
	if err != api.OK || h == nil {
		t.Fatal(rate, err)
	}
	s := &tester{t: t, heap: h, rate: rate, current: map[int]int{}}
	s.check()
	return s
}

// check checks all that the definitions say of a heap.
func (s *tester) check() {
	s.t.Helper()
	var ids []int
	corrupted := 0
	for id, key := range s.own {
		last, in := s.current[id]
		now, err := s.heap.Current(id)
		if !in {
			if now != 0 || err != api.ErrNone {
				s.t.Fatal("Current", id, now, err)
			}
			continue
		}
		ids = append(ids, id)
		if err != api.OK || now < last || now > key && !slices.Contains(s.own, now) {
			s.t.Fatal("Current", id, now, err, last, key)
		}
		s.current[id] = now
		if now > key {
			corrupted++
		}
	}
	if !slices.Equal(s.heap.Items(), ids) || s.heap.Len() != len(ids) || s.heap.Inserted() != len(s.own) {
		s.t.Fatal(s.heap.Items(), s.heap.Len(), s.heap.Inserted(), ids)
	}
	if n := s.heap.Corrupted(); n != corrupted || n > len(s.own)>>s.rate {
		s.t.Fatal("Corrupted", n, corrupted, len(s.own), s.rate)
	}
	s.most = max(s.most, corrupted)
}

func (s *tester) insert(key int) {
	s.t.Helper()
	id, err := s.heap.Insert(key)
	if len(s.own) == api.MaxOps {
		if id != 0 || err != api.ErrFull {
			s.t.Fatal("Insert", id, err)
		}
		return
	}
	if id != len(s.own) || err != api.OK {
		s.t.Fatal("Insert", key, id, err)
	}
	s.own = append(s.own, key)
	s.current[id] = key
}

func (s *tester) deleteMin() (int, int) {
	s.t.Helper()
	id, key, err := s.heap.DeleteMin()
	if len(s.current) == 0 {
		if id != 0 || key != 0 || err != api.ErrEmpty {
			s.t.Fatal("DeleteMin", id, key, err)
		}
		return 0, 0
	}
	last, in := s.current[id]
	if err != api.OK || !in || key < last {
		s.t.Fatal("DeleteMin", id, key, err, last)
	}
	delete(s.current, id)
	for other := range s.current {
		if now, _ := s.heap.Current(other); now < key {
			s.t.Fatal("DeleteMin", id, key, other, now)
		}
	}
	return id, key
}

// meld melds another heap into this one: items that are in it get the next identifiers, and those that were removed use
// up the ones after these. No current key changes.
func (s *tester) meld(o *tester) {
	s.t.Helper()
	s.check()
	o.check()
	var want, removed []int
	for i, key := range o.own {
		last, in := o.current[i]
		if !in {
			want = append(want, -1)
			removed = append(removed, key)
			continue
		}
		want = append(want, len(s.own))
		s.current[len(s.own)] = last
		s.own = append(s.own, key)
	}
	s.own = append(s.own, removed...)
	if l, err := s.heap.Meld(o.heap); err != api.OK || !slices.Equal(l, want) {
		s.t.Fatal("Meld", l, err, want)
	}
	for id, last := range s.current {
		if now, err := s.heap.Current(id); now != last || err != api.OK {
			s.t.Fatal("Meld", id, now, err, last)
		}
	}
	*o = tester{t: s.t, heap: o.heap, rate: o.rate, current: map[int]int{}}
	o.check()
	s.check()
}

// P33.1 to P33.3: random operations at many rates, with few and many keys.
func TestHeaps(t *testing.T) {
	most := 0
	for rate := range 12 {
		for _, spread := range []int{1, 10, 1000000} {
			n := numbers(rate + spread)
			s := newTester(t, rate)
			for round := range 500 {
				if grow := round%100 < 70; n.below(5) > 0 == grow {
					s.insert(n.below(spread) - spread/2)
				} else {
					s.deleteMin()
				}
				s.check()
			}
			for len(s.current) > 0 {
				s.deleteMin()
				if len(s.current)%9 == 0 {
					s.check()
				}
			}
			s.deleteMin()
			s.insert(3)
			s.check()
			most = max(most, s.most)
		}
	}
	// Otherwise what is promised of corrupted items would not be tested.
	if most < 20 {
		t.Error(most)
	}
}

// The most insertions, in several orders.
func TestGreatHeaps(t *testing.T) {
	for _, rate := range []int{0, 1, 3, 20} {
		for _, step := range []int{1, 7, api.MaxOps - 1} {
			s := newTester(t, rate)
			for i := range api.MaxOps {
				s.insert(i * step % api.MaxOps)
				if i%400 == 0 {
					s.check()
				}
			}
			s.check()
			s.insert(1)
			for i := range api.MaxOps {
				_, key := s.deleteMin()
				if rate == 20 && key != i {
					t.Fatal(step, i, key)
				}
				if i%200 == 0 {
					s.check()
				}
			}
			s.check()
			s.insert(1)
			s.deleteMin()
		}
	}
}

// P33.4
func TestMeld(t *testing.T) {
	most := 0
	for _, rate := range []int{0, 1, 2, 5} {
		n := numbers(rate + 3)
		s := newTester(t, rate)
		o := newTester(t, rate)
		for _, size := range []int{0, 1, 5, 64, 200, 0, 33, 450} {
			for range size {
				o.insert(n.below(100))
			}
			for range size / 3 {
				o.deleteMin()
				s.deleteMin()
				s.check()
			}
			o.check()
			s.meld(o)
			for range size / 4 {
				s.insert(n.below(100))
				o.insert(n.below(100))
			}
			s.check()
		}
		for len(s.current) > 0 {
			s.deleteMin()
		}
		s.check()
		most = max(most, s.most)
	}
	if most < 20 {
		t.Error(most)
	}
}

// Heaps that are themselves melded from small ones, down to single items, and lose items in between.
func TestMeldMelded(t *testing.T) {
	for rate := range 4 {
		for _, size := range []int{1, 2, 3, 8, 16} {
			n := numbers(10*rate + size)
			s := newTester(t, rate)
			for range 12 {
				o := newTester(t, rate)
				for range 9 {
					part := newTester(t, rate)
					for range size {
						part.insert(n.below(1000))
					}
					if n.below(2) > 0 {
						part.deleteMin()
					}
					o.meld(part)
					if n.below(3) == 0 {
						o.deleteMin()
					}
				}
				s.meld(o)
				s.deleteMin()
				s.insert(n.below(1000))
			}
			for len(s.current) > 0 {
				s.deleteMin()
				s.check()
			}
		}
	}
}

// The items of the other heap that were removed leave no gaps between the new identifiers.
func TestMeldIdentifiers(t *testing.T) {
	for rate := range 21 {
		a, b := newTester(t, rate), newTester(t, rate)
		a.insert(4)
		b.insert(1)
		b.insert(6)
		b.insert(2)
		b.deleteMin()
		if l, err := a.heap.Meld(b.heap); !slices.Equal(l, []int{-1, 1, 2}) || err != api.OK {
			t.Fatal(rate, l, err)
		}
		a.own = []int{4, 6, 2, 1}
		a.current = map[int]int{0: 4, 1: 6, 2: 2}
		a.check()
		if key, err := a.heap.Current(3); key != 0 || err != api.ErrNone {
			t.Fatal(rate, key, err)
		}
		a.insert(0) // it gets the identifier 4
		if rate > 2 {
			for _, want := range []int{4, 2, 0, 1} {
				if id, _ := a.deleteMin(); id != want {
					t.Fatal(rate, id, want)
				}
			}
		}

		// Of two items with one key either may be removed.
		empty, o := newTester(t, rate), newTester(t, rate)
		o.insert(0)
		o.insert(0)
		removed, _ := o.deleteMin()
		want := []int{0, 0}
		want[removed] = -1
		if l, err := empty.heap.Meld(o.heap); !slices.Equal(l, want) || err != api.OK {
			t.Fatal(rate, l, err, want)
		}
		if l := empty.heap.Items(); !slices.Equal(l, []int{0}) || empty.heap.Inserted() != 2 {
			t.Fatal(rate, l, empty.heap.Inserted())
		}
		if next, err := empty.heap.Insert(5); next != 2 || err != api.OK {
			t.Fatal(rate, next, err)
		}

		// All items were removed: identifiers are used up all the same.
		empty, o = newTester(t, rate), newTester(t, rate)
		for i := range 3 {
			o.insert(i)
		}
		for range 3 {
			o.deleteMin()
		}
		empty.meld(o)
		empty.deleteMin()
		empty.insert(1)
	}
}

// Meld raises no current key, though many trees of the same ranks become one.
func TestMeldKeepsKeys(t *testing.T) {
	for _, rate := range []int{0, 1, 2} {
		for size := 1; size <= api.MaxOps/2; size *= 2 {
			a, b := newTester(t, rate), newTester(t, rate)
			for i := range size {
				a.insert(i * 37 % 64)
				b.insert(i * 29 % 64)
			}
			a.meld(b)
			for range size {
				a.deleteMin()
			}
			a.check()
			a.insert(0)
			a.check()
		}
	}
}

func TestMeldErrors(t *testing.T) {
	a, b := newTester(t, 2), newTester(t, 2)
	other := newTester(t, 3)
	for i := range 3 {
		a.insert(i)
		b.insert(-i)
		other.insert(i)
	}
	bad := func(h, o *softheap.Heap, want api.Errno) {
		t.Helper()
		if l, err := h.Meld(o); len(l) != 0 || err != want {
			t.Error(l, err, want)
		}
		a.check()
		b.check()
		other.check()
	}
	bad(a.heap, nil, api.ErrArg)
	bad(a.heap, a.heap, api.ErrArg)
	bad(nil, a.heap, api.ErrArg)
	bad(nil, nil, api.ErrArg)
	bad(a.heap, other.heap, api.ErrShape)
	for range api.MaxOps - 5 {
		b.insert(1)
	}
	for range 100 {
		b.deleteMin()
	}
	bad(a.heap, b.heap, api.ErrFull)
	bad(b.heap, a.heap, api.ErrFull)
	bad(other.heap, b.heap, api.ErrShape)
	c := newTester(t, 2)
	c.insert(1)
	c.insert(2)
	b.meld(c)
	b.insert(1)
}

// P33.5
func TestSelect(t *testing.T) {
	n := numbers(7)
	for _, size := range []int{1, 2, 3, 4, 5, 9, 50, 333, api.MaxOps} {
		for _, spread := range []int{1, 3, 50, 100000} {
			var l []int
			for range size {
				l = append(l, n.below(spread)-spread/2)
			}
			sorted := slices.Clone(l)
			slices.Sort(sorted)
			before := slices.Clone(l)
			for k := 0; k < size; k += 1 + size/40 {
				if got, err := softheap.Select(l, k); got != sorted[k] || err != api.OK {
					t.Fatal(size, spread, k, got, err)
				}
			}
			if got, err := softheap.Select(l, size-1); got != sorted[size-1] || err != api.OK || !slices.Equal(l, before) {
				t.Fatal(size, spread, got, err)
			}
		}
	}
	long := make([]int, api.MaxOps+1)
	wrong := slices.Clone(long)
	wrong[api.MaxOps] = api.MaxKey + 1
	for _, c := range []struct {
		l    []int
		k    int
		want api.Errno
	}{
		{nil, 0, api.ErrRange}, {[]int{1}, 1, api.ErrRange}, {[]int{1}, -1, api.ErrRange}, {[]int{-api.MaxKey - 1}, 0, api.ErrRange},
		{long, 0, api.ErrFull}, {long, -1, api.ErrFull}, {wrong, -1, api.ErrRange}, {wrong, 0, api.ErrRange}, {long[1:], api.MaxOps, api.ErrRange},
	} {
		if got, err := softheap.Select(c.l, c.k); got != 0 || err != c.want {
			t.Error(len(c.l), c.k, got, err)
		}
	}
	if got, err := softheap.Select([]int{api.MaxKey, -api.MaxKey}, 1); got != api.MaxKey || err != api.OK {
		t.Error(got, err)
	}
}

// P33.6: what is removed of a soft heap tells a number near the middle.
func TestPivots(t *testing.T) {
	n := numbers(2)
	for _, rate := range []int{2, 3, 4} {
		for size := 1; size < 1500; size += 1 + size/3 {
			for _, spread := range []int{2, 40, 1000000} {
				s := newTester(t, rate)
				for range size {
					s.insert(n.below(spread))
				}
				greatest := -1
				for range size - size/2 {
					id, _ := s.deleteMin()
					greatest = max(greatest, s.own[id])
				}
				below, above := 0, 0
				for _, key := range s.own {
					if key <= greatest {
						below++
					}
					if key >= greatest {
						above++
					}
				}
				if below < size/4 || above < size/4 {
					t.Fatal(rate, size, spread, below, above)
				}
			}
		}
	}
}

func TestErrors(t *testing.T) {
	for _, rate := range []int{-1, 21, 64, -1 << 63, 1<<63 - 1} {
		if h, err := softheap.New(rate); h != nil || err != api.ErrRange {
			t.Error(rate, err)
		}
	}
	s := newTester(t, 1)
	s.deleteMin()
	for _, key := range []int{api.MaxKey + 1, -api.MaxKey - 1, 1<<63 - 1, -1 << 63} {
		if id, err := s.heap.Insert(key); id != 0 || err != api.ErrRange {
			t.Error(key, id, err)
		}
	}
	s.check()
	s.insert(api.MaxKey)
	s.insert(-api.MaxKey)
	for _, id := range []int{-1, 2, 1<<63 - 1, -1 << 63} {
		if key, err := s.heap.Current(id); key != 0 || err != api.ErrNone {
			t.Error(id, key, err)
		}
	}
	clear(s.heap.Items())
	s.check()
	for range api.MaxOps {
		s.insert(0)
	}
	if id, err := s.heap.Insert(api.MaxKey + 1); id != 0 || err != api.ErrRange {
		t.Error(id, err)
	}
}

func TestNil(t *testing.T) {
	var h *softheap.Heap
	if h.Len() != 0 || h.Inserted() != 0 || len(h.Items()) != 0 || h.Corrupted() != 0 {
		t.Error("values")
	}
	if id, err := h.Insert(api.MaxKey + 1); id != 0 || err != api.ErrArg {
		t.Error(id, err)
	}
	if id, key, err := h.DeleteMin(); id != 0 || key != 0 || err != api.ErrArg {
		t.Error(id, key, err)
	}
	if key, err := h.Current(0); key != 0 || err != api.ErrArg {
		t.Error(key, err)
	}
}
