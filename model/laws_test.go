package model_test

import (
	"testing"

	"heartwood/api"
	"heartwood/model"
)

// P3.6

// grown returns states of a kind that scripts lead to.
func grown(t *testing.T, kind int) []api.State {
	t.Helper()
	n := numbers(23)
	var l []api.State
	for i := range 25 {
		s, _, err := model.Run(state(kind), script(&n, kind, 3*i))
		if err != api.OK {
			t.Fatal(err)
		}
		l = append(l, s)
	}
	return l
}

func TestQueriesAndFailuresChangeNothing(t *testing.T) {
	n := numbers(29)
	for _, kind := range kinds() {
		for _, s := range grown(t, kind) {
			for range 40 {
				o := n.operation(kind)
				next, r := apply(t, s, o)
				update, _ := model.IsUpdate(kind, o.Code)
				if (!update || r.Err != api.OK) && !same(next, s) {
					t.Errorf("Apply(%v, %v) = %v %v", s, o, next, r)
				}
			}
		}
	}
}

func TestRankAndSelect(t *testing.T) {
	for _, s := range grown(t, api.Dict) {
		for i := range s.Rows {
			if k := ask(t, s, api.DictSelect, i); ask(t, s, api.DictRank, k) != i || ask(t, s, api.DictGet, k) != s.Rows[i][1] {
				t.Errorf("%v: the key %d with the index %d", s, k, i)
			}
		}
		for _, row := range s.Rows {
			if i := ask(t, s, api.DictRank, row[0]); ask(t, s, api.DictSelect, i) != row[0] {
				t.Errorf("%v: the index %d of the key %d", s, i, row[0])
			}
		}
	}
}

func TestHeapYieldsInOrder(t *testing.T) {
	for _, s := range grown(t, api.Heap) {
		for last := -api.MaxKey; len(s.Rows) > 0; {
			least := ask(t, s, api.HeapMin)
			next, r := apply(t, s, op(api.HeapDeleteMin))
			if r.N != least || least < last || ask(t, next, api.HeapSize) != ask(t, s, api.HeapSize)-1 {
				t.Errorf("%v: %d after %d", s, r.N, last)
			}
			last, s = least, next
		}
	}
}

func TestReversingAndSums(t *testing.T) {
	for _, s := range grown(t, api.Seq) {
		for a := range len(s.Rows) + 1 {
			for b := a; b <= len(s.Rows); b++ {
				turn := op(api.SeqReverse, a, b)
				turned := after(t, s, turn)
				if twice := after(t, turned, turn); !same(twice, s) {
					t.Errorf("%v reversed twice: %v", s, twice)
				}
				sum := ask(t, s, api.SeqSum, a, b)
				if ask(t, turned, api.SeqSum, a, b) != sum {
					t.Errorf("%v: another sum after reversing", s)
				}
				if m := (a + b) / 2; ask(t, s, api.SeqSum, a, m)+ask(t, s, api.SeqSum, m, b) != sum {
					t.Errorf("%v: sums from %d to %d", s, a, b)
				}
			}
		}
	}
}

func TestSameIsAnEquivalence(t *testing.T) {
	for _, s := range grown(t, api.Sets) {
		n, sizes := 0, 0
		for _, class := range s.Rows {
			n += len(class)
		}
		n = min(n, 9)
		for a := range n {
			for b := range n {
				ab := ask(t, s, api.SetsSame, a, b)
				if a == b && ab != 1 || ab != ask(t, s, api.SetsSame, b, a) {
					t.Errorf("%v: same %d %d is %d", s, a, b, ab)
				}
				for c := range n {
					if ab == 1 && ask(t, s, api.SetsSame, b, c) == 1 && ask(t, s, api.SetsSame, a, c) != 1 {
						t.Errorf("%v: same %d %d, and %d", s, a, b, c)
					}
				}
				joined := after(t, s, op(api.SetsUnion, a, b))
				if ask(t, joined, api.SetsSame, a, b) != 1 || ask(t, joined, api.SetsCount) != ask(t, s, api.SetsCount)-1+ab {
					t.Errorf("%v: union %d %d", s, a, b)
				}
			}
		}
		for _, class := range s.Rows {
			sizes += ask(t, s, api.SetsSize, class[0])
		}
		if all := after(t, s, op(api.SetsMake)); ask(t, all, api.SetsSame, sizes, sizes) != 1 {
			t.Errorf("%v: the sizes sum up to %d", s, sizes)
		}
	}
}

func TestNeighbouringRectangles(t *testing.T) {
	for _, s := range grown(t, api.Range) {
		for cut := -3; cut < 12; cut++ {
			for _, code := range []int{api.RangeCount, api.RangeSum} {
				all := ask(t, s, code, -3, 12, -2, 9)
				if ask(t, s, code, -3, cut, -2, 9)+ask(t, s, code, cut+1, 12, -2, 9) != all {
					t.Errorf("%v: cut at x %d", s, cut)
				}
				if ask(t, s, code, -3, 12, -2, cut)+ask(t, s, code, -3, 12, cut+1, 9) != all && cut >= -2 && cut <= 9 {
					t.Errorf("%v: cut at y %d", s, cut)
				}
			}
		}
		if ask(t, s, api.RangeCount, -api.MaxKey, api.MaxKey, -api.MaxKey, api.MaxKey) != ask(t, s, api.RangeSize) {
			t.Errorf("%v: the count of all points", s)
		}
	}
}

func TestAppendingInParts(t *testing.T) {
	n := numbers(31)
	for _, s := range grown(t, api.Text) {
		var l []int
		for range 2 + n.below(20) {
			l = append(l, n.below(256))
		}
		once := after(t, s, op(api.TextAppend, l...))
		for cut := 1; cut < len(l); cut++ {
			if twice := after(t, s, op(api.TextAppend, l[:cut]...), op(api.TextAppend, l[cut:]...)); !same(twice, once) {
				t.Errorf("%v: appending %v and %v", s, l[:cut], l[cut:])
			}
		}
	}
}

func TestOperationsAreReadFromTheirTexts(t *testing.T) {
	n := numbers(37)
	for _, kind := range kinds() {
		for range 300 {
			o := n.operation(kind)
			wantText(t, kind, o, written(kind, o))
		}
	}
}
