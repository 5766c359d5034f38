package model_test

import (
	"testing"

	"heartwood/api"
	"heartwood/model"
)

// P3.3

// The example of the chapter.
func TestExample(t *testing.T) {
	s, _ := model.New(api.Dict)
	want(t, s, op(api.DictPut, 3, 10), is(0), []int{3, 10})
	want(t, state(api.Dict, []int{3, 10}), op(api.DictPut, 1, 7), is(0), []int{1, 7}, []int{3, 10})
	want(t, state(api.Dict, []int{1, 7}, []int{3, 10}), op(api.DictPut, 3, 11), is(1), []int{1, 7}, []int{3, 11})
	s = state(api.Dict, []int{1, 7}, []int{3, 11})
	wantQuery(t, s, op(api.DictSelect, 1), is(3))
	wantQuery(t, s, op(api.DictRank, 3), is(1))
	wantQuery(t, s, op(api.DictFloor, 2), is(1))
	wantQuery(t, s, op(api.DictFloor, 0), fails(api.ErrNone))
}

func TestDict(t *testing.T) {
	s := state(api.Dict, []int{-5, 50}, []int{2, 0}, []int{4, -7})
	want(t, s, op(api.DictPut, 2, 9), is(1), []int{-5, 50}, []int{2, 9}, []int{4, -7})
	want(t, s, op(api.DictPut, 3, 9), is(0), []int{-5, 50}, []int{2, 0}, []int{3, 9}, []int{4, -7})
	want(t, s, op(api.DictPut, -6, 9), is(0), []int{-6, 9}, []int{-5, 50}, []int{2, 0}, []int{4, -7})
	want(t, s, op(api.DictPut, 5, 9), is(0), []int{-5, 50}, []int{2, 0}, []int{4, -7}, []int{5, 9})
	want(t, s, op(api.DictRemove, -5), is(50), []int{2, 0}, []int{4, -7})
	want(t, s, op(api.DictRemove, 2), is(0), []int{-5, 50}, []int{4, -7})
	want(t, s, op(api.DictRemove, 4), is(-7), []int{-5, 50}, []int{2, 0})
	wantQuery(t, s, op(api.DictRemove, 3), fails(api.ErrNone))
	wantQuery(t, s, op(api.DictGet, -5), is(50))
	wantQuery(t, s, op(api.DictGet, 2), is(0))
	wantQuery(t, s, op(api.DictGet, 4), is(-7))
	wantQuery(t, s, op(api.DictGet, 50), fails(api.ErrNone))
	wantQuery(t, s, op(api.DictSize), is(3))
	want(t, state(api.Dict, []int{1, 1}), op(api.DictRemove, 1), is(1))
}

func TestDictOrder(t *testing.T) {
	s := state(api.Dict, []int{-5, 50}, []int{2, 0}, []int{4, -7})
	none := fails(api.ErrNone)
	for _, c := range []struct {
		k              int
		floor, ceiling api.Res
		rank           int
	}{
		{-api.MaxKey, none, is(-5), 0}, {-6, none, is(-5), 0}, {-5, is(-5), is(-5), 0}, {-4, is(-5), is(2), 1}, {0, is(-5), is(2), 1},
		{1, is(-5), is(2), 1}, {2, is(2), is(2), 1}, {3, is(2), is(4), 2}, {4, is(4), is(4), 2}, {5, is(4), none, 3}, {api.MaxKey, is(4), none, 3},
	} {
		wantQuery(t, s, op(api.DictFloor, c.k), c.floor)
		wantQuery(t, s, op(api.DictCeiling, c.k), c.ceiling)
		wantQuery(t, s, op(api.DictRank, c.k), is(c.rank))
	}
	for i, wanted := range map[int]api.Res{-1: fails(api.ErrRange), 0: is(-5), 1: is(2), 2: is(4), 3: fails(api.ErrRange), api.MaxKey: fails(api.ErrRange), -api.MaxKey: fails(api.ErrRange)} {
		wantQuery(t, s, op(api.DictSelect, i), wanted)
	}
	ends := state(api.Dict, []int{-api.MaxKey, 1}, []int{api.MaxKey, 2})
	wantQuery(t, ends, op(api.DictFloor, api.MaxKey), is(api.MaxKey))
	wantQuery(t, ends, op(api.DictFloor, -api.MaxKey), is(-api.MaxKey))
	wantQuery(t, ends, op(api.DictCeiling, api.MaxKey), is(api.MaxKey))
	wantQuery(t, ends, op(api.DictRank, api.MaxKey), is(1))
}

func TestEmptyDict(t *testing.T) {
	s := state(api.Dict)
	for code, wanted := range map[int]api.Res{
		api.DictGet: fails(api.ErrNone), api.DictRemove: fails(api.ErrNone), api.DictFloor: fails(api.ErrNone),
		api.DictCeiling: fails(api.ErrNone), api.DictRank: is(0), api.DictSelect: fails(api.ErrRange),
	} {
		wantQuery(t, s, op(code, 0), wanted)
	}
	wantQuery(t, s, op(api.DictSize), is(0))
}

func TestFullDict(t *testing.T) {
	s := filled(api.Dict, limit)
	wantQuery(t, s, op(api.DictPut, 1, 1), fails(api.ErrFull))
	wantQuery(t, s, op(api.DictPut, -1, 1), fails(api.ErrFull))
	wantQuery(t, s, op(api.DictPut, 2*limit, 1), fails(api.ErrFull))
	wantQuery(t, s, op(api.DictSize), is(limit))
	wantQuery(t, s, op(api.DictSelect, limit-1), is(2*limit-2))
	wantQuery(t, s, op(api.DictSelect, limit), fails(api.ErrRange))
	next, r := apply(t, s, op(api.DictPut, 4, 77))
	if !sameRes(r, is(1)) || len(next.Rows) != limit || next.Rows[2][1] != 77 {
		t.Error(r, next)
	}
	next, r = apply(t, filled(api.Dict, limit-1), op(api.DictPut, -1, 1))
	if !sameRes(r, is(0)) || len(next.Rows) != limit {
		t.Error(r, len(next.Rows))
	}
}

func TestHeap(t *testing.T) {
	s := state(api.Heap, []int{-3}, []int{1}, []int{1}, []int{4})
	want(t, s, op(api.HeapInsert, 0), is(0), []int{-3}, []int{0}, []int{1}, []int{1}, []int{4})
	want(t, s, op(api.HeapInsert, 1), is(0), []int{-3}, []int{1}, []int{1}, []int{1}, []int{4})
	want(t, s, op(api.HeapInsert, -4), is(0), []int{-4}, []int{-3}, []int{1}, []int{1}, []int{4})
	want(t, s, op(api.HeapInsert, 5), is(0), []int{-3}, []int{1}, []int{1}, []int{4}, []int{5})
	want(t, s, op(api.HeapDeleteMin), is(-3), []int{1}, []int{1}, []int{4})
	want(t, state(api.Heap, []int{1}, []int{1}, []int{4}), op(api.HeapDeleteMin), is(1), []int{1}, []int{4})
	want(t, state(api.Heap, []int{4}), op(api.HeapDeleteMin), is(4))
	wantQuery(t, s, op(api.HeapMin), is(-3))
	wantQuery(t, s, op(api.HeapSize), is(4))
	empty := state(api.Heap)
	wantQuery(t, empty, op(api.HeapMin), fails(api.ErrEmpty))
	wantQuery(t, empty, op(api.HeapDeleteMin), fails(api.ErrEmpty))
	wantQuery(t, empty, op(api.HeapSize), is(0))
	want(t, empty, op(api.HeapInsert, api.MaxKey), is(0), []int{api.MaxKey})
}

func TestFullHeap(t *testing.T) {
	s := filled(api.Heap, limit)
	wantQuery(t, s, op(api.HeapInsert, 1), fails(api.ErrFull))
	wantQuery(t, s, op(api.HeapInsert, api.MaxKey), fails(api.ErrFull))
	wantQuery(t, s, op(api.HeapSize), is(limit))
	want(t, s, op(api.HeapDeleteMin), is(0), s.Rows[1:]...)
	want(t, state(api.Heap, s.Rows[1:]...), op(api.HeapInsert, 0), is(0), s.Rows...)
}

func TestSeq(t *testing.T) {
	s := state(api.Seq, []int{5}, []int{-2}, []int{5})
	want(t, s, op(api.SeqInsert, 0, 9), is(0), []int{9}, []int{5}, []int{-2}, []int{5})
	want(t, s, op(api.SeqInsert, 1, 9), is(0), []int{5}, []int{9}, []int{-2}, []int{5})
	want(t, s, op(api.SeqInsert, 3, 9), is(0), []int{5}, []int{-2}, []int{5}, []int{9})
	want(t, s, op(api.SeqRemove, 0), is(5), []int{-2}, []int{5})
	want(t, s, op(api.SeqRemove, 1), is(-2), []int{5}, []int{5})
	want(t, s, op(api.SeqRemove, 2), is(5), []int{5}, []int{-2})
	want(t, s, op(api.SeqSet, 1, 9), is(-2), []int{5}, []int{9}, []int{5})
	want(t, s, op(api.SeqSet, 2, -9), is(5), []int{5}, []int{-2}, []int{-9})
	wantQuery(t, s, op(api.SeqGet, 0), is(5))
	wantQuery(t, s, op(api.SeqGet, 1), is(-2))
	wantQuery(t, s, op(api.SeqSize), is(3))
	wantQuery(t, s, op(api.SeqInsert, 4, 9), fails(api.ErrRange))
	for _, i := range []int{-1, -api.MaxKey, 3, 4, api.MaxKey} {
		wantQuery(t, s, op(api.SeqRemove, i), fails(api.ErrRange))
		wantQuery(t, s, op(api.SeqGet, i), fails(api.ErrRange))
		wantQuery(t, s, op(api.SeqSet, i, 1), fails(api.ErrRange))
		if i != 3 {
			wantQuery(t, s, op(api.SeqInsert, i, 1), fails(api.ErrRange))
		}
	}
	empty := state(api.Seq)
	want(t, empty, op(api.SeqInsert, 0, 9), is(0), []int{9})
	wantQuery(t, empty, op(api.SeqInsert, 1, 9), fails(api.ErrRange))
	wantQuery(t, empty, op(api.SeqGet, 0), fails(api.ErrRange))
	wantQuery(t, empty, op(api.SeqSize), is(0))
}

func TestSeqParts(t *testing.T) {
	s := state(api.Seq, []int{5}, []int{-2}, []int{7}, []int{100})
	want(t, s, op(api.SeqReverse, 0, 4), is(0), []int{100}, []int{7}, []int{-2}, []int{5})
	want(t, s, op(api.SeqReverse, 1, 3), is(0), []int{5}, []int{7}, []int{-2}, []int{100})
	want(t, s, op(api.SeqReverse, 0, 3), is(0), []int{7}, []int{-2}, []int{5}, []int{100})
	for i := range 5 {
		wantQuery(t, s, op(api.SeqReverse, i, i), is(0))
		wantQuery(t, s, op(api.SeqSum, i, i), is(0))
	}
	wantQuery(t, s, op(api.SeqReverse, 3, 4), is(0))
	wantQuery(t, s, op(api.SeqSum, 0, 4), is(110))
	wantQuery(t, s, op(api.SeqSum, 1, 2), is(-2))
	wantQuery(t, s, op(api.SeqSum, 1, 3), is(5))
	for _, part := range [][2]int{{-1, 0}, {-1, 2}, {2, 1}, {4, 3}, {0, 5}, {4, 5}, {5, 5}, {-1, -1}, {5, 4}, {0, api.MaxKey}, {-api.MaxKey, 1}} {
		wantQuery(t, s, op(api.SeqReverse, part[0], part[1]), fails(api.ErrRange))
		wantQuery(t, s, op(api.SeqSum, part[0], part[1]), fails(api.ErrRange))
	}
	var great api.State
	great.Kind = api.Seq
	for range limit {
		great.Rows = append(great.Rows, []int{-api.MaxKey})
	}
	wantQuery(t, great, op(api.SeqSum, 0, limit), is(-limit*api.MaxKey))
}

func TestFullSeq(t *testing.T) {
	s := filled(api.Seq, limit)
	wantQuery(t, s, op(api.SeqInsert, 0, 1), fails(api.ErrFull))
	wantQuery(t, s, op(api.SeqInsert, limit, 1), fails(api.ErrFull))
	wantQuery(t, s, op(api.SeqInsert, limit+1, 1), fails(api.ErrRange))
	wantQuery(t, s, op(api.SeqInsert, -1, 1), fails(api.ErrRange))
	wantQuery(t, s, op(api.SeqSum, 0, limit), is(limit*(limit-1)/2))
	want(t, s, op(api.SeqRemove, 0), is(0), s.Rows[1:]...)
	want(t, state(api.Seq, s.Rows[1:]...), op(api.SeqInsert, 0, 0), is(0), s.Rows...)
}

func TestSets(t *testing.T) {
	s := state(api.Sets, []int{0, 3}, []int{1}, []int{2, 4})
	want(t, s, op(api.SetsMake), is(5), []int{0, 3}, []int{1}, []int{2, 4}, []int{5})
	want(t, s, op(api.SetsUnion, 1, 4), is(1), []int{0, 3}, []int{1, 2, 4})
	want(t, s, op(api.SetsUnion, 2, 3), is(1), []int{0, 2, 3, 4}, []int{1})
	want(t, s, op(api.SetsUnion, 3, 2), is(1), []int{0, 2, 3, 4}, []int{1})
	want(t, s, op(api.SetsUnion, 1, 0), is(1), []int{0, 1, 3}, []int{2, 4})
	wantQuery(t, s, op(api.SetsUnion, 3, 0), is(0))
	wantQuery(t, s, op(api.SetsUnion, 1, 1), is(0))
	wantQuery(t, s, op(api.SetsSame, 2, 4), is(1))
	wantQuery(t, s, op(api.SetsSame, 4, 2), is(1))
	wantQuery(t, s, op(api.SetsSame, 1, 1), is(1))
	wantQuery(t, s, op(api.SetsSame, 0, 4), is(0))
	wantQuery(t, s, op(api.SetsSize, 1), is(1))
	wantQuery(t, s, op(api.SetsSize, 3), is(2))
	wantQuery(t, s, op(api.SetsCount), is(3))
	for _, a := range []int{-1, 5, 6, api.MaxKey, -api.MaxKey} {
		wantQuery(t, s, op(api.SetsSize, a), fails(api.ErrNone))
		for _, code := range []int{api.SetsUnion, api.SetsSame} {
			wantQuery(t, s, op(code, a, 0), fails(api.ErrNone))
			wantQuery(t, s, op(code, 0, a), fails(api.ErrNone))
			wantQuery(t, s, op(code, a, a), fails(api.ErrNone))
		}
	}
	empty := state(api.Sets)
	want(t, empty, op(api.SetsMake), is(0), []int{0})
	wantQuery(t, empty, op(api.SetsCount), is(0))
	wantQuery(t, empty, op(api.SetsSize, 0), fails(api.ErrNone))
	wantQuery(t, empty, op(api.SetsSame, 0, 0), fails(api.ErrNone))
}

func TestFullSets(t *testing.T) {
	wantQuery(t, filled(api.Sets, limit), op(api.SetsMake), fails(api.ErrFull))
	one := state(api.Sets, span(0, limit))
	wantQuery(t, one, op(api.SetsMake), fails(api.ErrFull))
	wantQuery(t, one, op(api.SetsSize, limit-1), is(limit))
	wantQuery(t, one, op(api.SetsCount), is(1))
	want(t, state(api.Sets, span(0, limit-1)), op(api.SetsMake), is(limit-1), span(0, limit-1), []int{limit - 1})
	want(t, state(api.Sets, span(0, 250), span(250, limit)), op(api.SetsUnion, 499, 0), is(1), span(0, limit))
}

func TestRange(t *testing.T) {
	s := state(api.Range, []int{-1, 5, 10}, []int{2, 2, 0}, []int{2, 4, -3})
	want(t, s, op(api.RangeAdd, 2, 3, 7), is(0), []int{-1, 5, 10}, []int{2, 2, 0}, []int{2, 3, 7}, []int{2, 4, -3})
	want(t, s, op(api.RangeAdd, -1, 4, 7), is(0), []int{-1, 4, 7}, []int{-1, 5, 10}, []int{2, 2, 0}, []int{2, 4, -3})
	want(t, s, op(api.RangeAdd, 0, 9, 7), is(0), []int{-1, 5, 10}, []int{0, 9, 7}, []int{2, 2, 0}, []int{2, 4, -3})
	want(t, s, op(api.RangeAdd, 3, -9, 7), is(0), []int{-1, 5, 10}, []int{2, 2, 0}, []int{2, 4, -3}, []int{3, -9, 7})
	wantQuery(t, s, op(api.RangeAdd, 2, 2, 7), fails(api.ErrExists))
	wantQuery(t, s, op(api.RangeAdd, -1, 5, 10), fails(api.ErrExists))
	want(t, s, op(api.RangeRemove, -1, 5), is(10), []int{2, 2, 0}, []int{2, 4, -3})
	want(t, s, op(api.RangeRemove, 2, 2), is(0), []int{-1, 5, 10}, []int{2, 4, -3})
	want(t, s, op(api.RangeRemove, 2, 4), is(-3), []int{-1, 5, 10}, []int{2, 2, 0})
	for _, place := range [][2]int{{2, 3}, {-1, 2}, {5, -1}, {4, 2}, {0, 0}} {
		wantQuery(t, s, op(api.RangeRemove, place[0], place[1]), fails(api.ErrNone))
	}
	wantQuery(t, s, op(api.RangeSize), is(3))
	empty := state(api.Range)
	wantQuery(t, empty, op(api.RangeSize), is(0))
	wantQuery(t, empty, op(api.RangeRemove, 0, 0), fails(api.ErrNone))
	wantQuery(t, empty, op(api.RangeCount, -9, 9, -9, 9), is(0))
	want(t, empty, op(api.RangeAdd, api.MaxKey, -api.MaxKey, 0), is(0), []int{api.MaxKey, -api.MaxKey, 0})
}

func TestRectangles(t *testing.T) {
	s := state(api.Range, []int{-1, 5, 10}, []int{2, 2, 100}, []int{2, 4, -3})
	for _, c := range []struct{ a, b, c, d, count, sum int }{
		{-api.MaxKey, api.MaxKey, -api.MaxKey, api.MaxKey, 3, 107},
		{-1, 2, 2, 5, 3, 107}, {0, 2, 2, 5, 2, 97}, {-1, 1, 2, 5, 1, 10}, {-1, 2, 3, 5, 2, 7}, {-1, 2, 2, 4, 2, 97},
		{2, 2, 2, 2, 1, 100}, {2, 2, 4, 4, 1, -3}, {2, 2, 3, 3, 0, 0}, {-1, -1, 5, 5, 1, 10},
		{2, -1, 2, 5, 0, 0}, {-1, 2, 5, 2, 0, 0}, {2, 4, -1, 5, 2, 97}, {4, 2, 2, 2, 0, 0}, {5, 5, -1, -1, 0, 0},
	} {
		wantQuery(t, s, op(api.RangeCount, c.a, c.b, c.c, c.d), is(c.count))
		wantQuery(t, s, op(api.RangeSum, c.a, c.b, c.c, c.d), is(c.sum))
	}
}

func TestFullRange(t *testing.T) {
	s := filled(api.Range, limit)
	wantQuery(t, s, op(api.RangeAdd, -1, 0, 1), fails(api.ErrFull))
	wantQuery(t, s, op(api.RangeAdd, 0, 0, 1), fails(api.ErrExists))
	wantQuery(t, s, op(api.RangeSize), is(limit))
	want(t, s, op(api.RangeRemove, 0, 0), is(0), s.Rows[1:]...)
	want(t, state(api.Range, s.Rows[1:]...), op(api.RangeAdd, 0, 0, 0), is(0), s.Rows...)
}

func TestText(t *testing.T) {
	s := state(api.Text, chars("abracadabra"))
	want(t, s, op(api.TextAppend, 255, 0), is(0), append(chars("abracadabra"), 255, 0))
	for word, wanted := range map[string][2]int{"a": {5, 0}, "abra": {2, 0}, "bra": {2, 1}, "ra": {2, 2}, "cad": {1, 4}, "d": {1, 6}, "abracadabra": {1, 0}, "abr": {2, 0}} {
		wantQuery(t, s, op(api.TextCount, chars(word)...), is(wanted[0]))
		wantQuery(t, s, op(api.TextFind, chars(word)...), is(wanted[1]))
	}
	for _, word := range []string{"x", "aa", "abrac ", "abracadabraa", "raa", "b\x00", "aabracadabra"} {
		wantQuery(t, s, op(api.TextCount, chars(word)...), is(0))
		wantQuery(t, s, op(api.TextFind, chars(word)...), fails(api.ErrNone))
	}
	wantQuery(t, s, op(api.TextSize), is(11))
	overlapping := state(api.Text, chars("baaaaa"))
	wantQuery(t, overlapping, op(api.TextCount, chars("aa")...), is(4))
	wantQuery(t, overlapping, op(api.TextFind, chars("aa")...), is(1))
	wantQuery(t, overlapping, op(api.TextFind, chars("a")...), is(1))
	wantQuery(t, overlapping, op(api.TextCount, chars("aaaaa")...), is(1))
	wantQuery(t, overlapping, op(api.TextCount, chars("aaaaaa")...), is(0))
	empty := state(api.Text)
	want(t, empty, op(api.TextAppend, 97), is(0), []int{97})
	wantQuery(t, empty, op(api.TextCount, 97), is(0))
	wantQuery(t, empty, op(api.TextFind, 97), fails(api.ErrNone))
	wantQuery(t, empty, op(api.TextSize), is(0))
}

func TestFullText(t *testing.T) {
	s := filled(api.Text, limit)
	wantQuery(t, s, op(api.TextAppend, 1), fails(api.ErrFull))
	wantQuery(t, s, op(api.TextSize), is(limit))
	wantQuery(t, s, op(api.TextCount, repeated(api.MaxArgs, 7)...), is(limit-api.MaxArgs+1))
	short := filled(api.Text, limit-3)
	want(t, short, op(api.TextAppend, 1, 2, 3), is(0), append(repeated(limit-3, 7), 1, 2, 3))
	wantQuery(t, short, op(api.TextAppend, 1, 2, 3, 4), fails(api.ErrFull))
	want(t, short, op(api.TextAppend, 1, 2), is(0), append(repeated(limit-3, 7), 1, 2))
}

// All valid operations are executed in many valid states, and do what the oracle does, but for the limit.
func TestApplyOfOracle(t *testing.T) {
	n := numbers(5)
	for round := range 60 {
		for _, kind := range kinds() {
			s, _ := model.New(kind)
			o := oracleOf(kind)
			for range 3 + 2*round {
				x := n.operation(kind)
				wanted := o.do(x)
				next, r := apply(t, s, x)
				if !sameRes(r, wanted) || !same(next, state(kind, o.rows()...)) {
					t.Fatalf("Apply(%v, %v) = %v %v, want %v %v", s, x, next, r, o.rows(), wanted)
				}
				s = next
			}
		}
	}
}

func TestApplyOfAllOps(t *testing.T) {
	for _, s := range rightStates() {
		for _, o := range rightOps(s.Kind) {
			next, r := apply(t, s, o)
			if update, _ := model.IsUpdate(s.Kind, o.Code); !update && !same(next, s) {
				t.Errorf("the query Apply(%v, %v) = %v %v", s, o, next, r)
			}
		}
	}
}

func wantNoApply(t *testing.T, name string, s api.State, o api.Op) {
	t.Helper()
	next, r, err := model.Apply(s, o)
	if err != api.ErrArg || !isZeroState(next) || !sameRes(r, api.Res{}) {
		t.Errorf("%s: Apply(%.100v, %.100v) = %v %v %v", name, s, o, next, r, err)
	}
}

func TestApplyOfWrongArguments(t *testing.T) {
	for name, s := range wrongStates() {
		for _, kind := range kinds() {
			for _, o := range rightOps(kind) {
				wantNoApply(t, name, s, o)
			}
		}
		wantNoApply(t, name, s, api.Op{})
	}
	for _, s := range rightStates() {
		for _, o := range wrongOps(s.Kind) {
			wantNoApply(t, "wrong operation", s, o)
		}
	}
}

func TestApplySharesNoMemory(t *testing.T) {
	for _, s := range rightStates() {
		for _, o := range rightOps(s.Kind) {
			before, beforeOp := clone(s), cloneOp(o)
			next, _, _ := model.Apply(s, o)
			wantOwnRows(t, next)
			kept := clone(next)
			spoil(next)
			if !same(s, before) || !sameOp(o, beforeOp) {
				t.Fatalf("the result of Apply(%v, %v) shares memory with an argument", before, beforeOp)
			}
			again, _, _ := model.Apply(s, o)
			for i := range o.Args {
				o.Args[i] = 1
			}
			if !same(again, kept) {
				t.Fatalf("Apply(%v, %v) keeps the arguments of the operation", before, beforeOp)
			}
		}
	}
}
