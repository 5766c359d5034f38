package connectivity_test

import (
	"slices"
	"testing"

	"heartwood/api"
	"heartwood/connectivity"
)

// numbers yields numbers by a fixed rule.
type numbers int

func (n *numbers) below(limit int) int {
	*n = *n * 48271 % 2147483647
	return int(*n) % limit
}

// names returns the name of the set of each vertex of a graph.
func names(n int, edges [][2]int) []int {
	l := make([]int, n)
	for i := range l {
		l[i] = i
	}
	for changed := true; changed; {
		changed = false
		for _, e := range edges {
			least := min(l[e[0]], l[e[1]])
			changed = changed || l[e[0]] != l[e[1]]
			l[e[0]], l[e[1]] = least, least
		}
	}
	return l
}

func countSets(l []int) int {
	count := 0
	for v, name := range l {
		if v == name {
			count++
		}
	}
	return count
}

// checkForest compares a forest with the graph of its unions.
func checkForest(t *testing.T, f *connectivity.Forest, n int, unions [][2]int) {
	t.Helper()
	want := names(n, unions)
	for v := range n {
		if name, err := f.Find(v); name != want[v] || err != api.OK {
			t.Fatal(n, unions, v, name, err, want)
		}
	}
	if f.Count() != countSets(want) || f.Depth() != len(unions) {
		t.Fatal(n, unions, f.Count(), f.Depth())
	}
}

// P38.1, P38.2, and the beginning of P38.6.
func TestForests(t *testing.T) {
	for _, n := range []int{1, 2, 5, 12, 40} {
		r := numbers(n)
		f, err := connectivity.NewForest(n)
		if err != api.OK {
			t.Fatal(err)
		}
		var unions [][2]int
		for round := range 300 {
			if grow := round%100 < 60; r.below(5) > 0 == grow {
				v, w := r.below(n), r.below(n)
				l := names(n, unions)
				if is, err := f.Union(v, w); is != (l[v] != l[w]) || err != api.OK {
					t.Fatal(v, w, is, err)
				}
				unions = append(unions, [2]int{v, w})
			} else if err := f.Undo(); len(unions) == 0 && err != api.ErrEmpty || len(unions) > 0 && err != api.OK {
				t.Fatal(err)
			} else {
				unions = unions[:max(0, len(unions)-1)]
			}
			checkForest(t, f, n, unions)
		}
		for range unions {
			f.Undo()
		}
		checkForest(t, f, n, nil)
	}
}

func TestForestErrors(t *testing.T) {
	for _, n := range []int{0, -1, api.MaxList + 1, 1 << 62, -1 << 63} {
		if f, err := connectivity.NewForest(n); f != nil || err != api.ErrRange {
			t.Error(n, err)
		}
	}
	f, _ := connectivity.NewForest(api.MaxList)
	for _, v := range []int{-1, api.MaxList, 1<<63 - 1, -1 << 63} {
		if n, err := f.Find(v); n != 0 || err != api.ErrRange {
			t.Error(v, n, err)
		}
		for _, p := range [][2]int{{v, 0}, {0, v}} {
			if is, err := f.Union(p[0], p[1]); is || err != api.ErrRange {
				t.Error(p, is, err)
			}
		}
	}
	if err := f.Undo(); err != api.ErrEmpty {
		t.Error(err)
	}
	checkForest(t, f, api.MaxList, nil)
	for i := range 100000 {
		if is, err := f.Union(i%999, i%999+1); is != (i < 999) || err != api.OK {
			t.Fatal(i, is, err)
		}
	}
	if is, err := f.Union(0, 1); is || err != api.ErrFull || f.Depth() != 100000 {
		t.Error(is, err)
	}
	if is, err := f.Union(0, -1); is || err != api.ErrRange {
		t.Error(is, err)
	}
	if n, err := f.Find(999); n != 0 || err != api.OK || f.Count() != 1 {
		t.Error(n, err)
	}
	f.Undo()
	if is, err := f.Union(0, 1); is || err != api.OK {
		t.Error(is, err)
	}
}

func TestNil(t *testing.T) {
	var f *connectivity.Forest
	if n, err := f.Find(-1); n != 0 || err != api.ErrArg {
		t.Error(n, err)
	}
	if is, err := f.Union(-1, 0); is || err != api.ErrArg {
		t.Error(is, err)
	}
	if f.Undo() != api.ErrArg || f.Count() != 0 || f.Depth() != 0 {
		t.Error("values")
	}
	f = &connectivity.Forest{}
	if _, err := f.Find(0); err != api.ErrRange || f.Undo() != api.ErrEmpty {
		t.Error(err)
	}
}

func event(kind, a, b int) api.EdgeEvent { return api.EdgeEvent{Kind: kind, A: a, B: b} }

// events returns random valid events.
func (r *numbers) events(n, size int) []api.EdgeEvent {
	var l []api.EdgeEvent
	var edges [][2]int
	for range size {
		a, b := r.below(n), r.below(n)
		switch i := slices.IndexFunc(edges, func(e [2]int) bool { return e == [2]int{a, b} || e == [2]int{b, a} }); {
		case r.below(3) == 0 || a == b:
			l = append(l, event(3, a, b))
		case i < 0:
			edges = append(edges, [2]int{a, b})
			l = append(l, event(1, a, b))
		default:
			edges = slices.Delete(edges, i, i+1)
			l = append(l, event(2, a, b))
		}
	}
	return l
}

// stands counts the nodes of the segment tree, by its definition, at which an interval stands.
func stands(x [4]int, a, b, above, aboveEnd int) int {
	count := 0
	in := func(a, b int) bool { return x[2] <= a && b <= x[3] }
	if in(a, b) && (above > aboveEnd || !in(above, aboveEnd)) {
		count++
	}
	if b-a > 1 {
		count += stands(x, a, (a+b)/2, a, b) + stands(x, (a+b)/2, b, a, b)
	}
	return count
}

func checkEvents(t *testing.T, n int, l []api.EdgeEvent) {
	t.Helper()
	if !connectivity.Valid(n, l) {
		t.Fatal(n, l)
	}
	spans, err := connectivity.Intervals(n, l)
	if err != api.OK {
		t.Fatal(err)
	}
	var want [][4]int
	for i, e := range l {
		if e.Kind != 1 {
			continue
		}
		end := len(l)
		for j := len(l) - 1; j > i; j-- {
			if f := l[j]; f.Kind == 2 && min(e.A, e.B) == min(f.A, f.B) && max(e.A, e.B) == max(f.A, f.B) {
				end = j
			}
		}
		want = append(want, [4]int{min(e.A, e.B), max(e.A, e.B), i, end})
	}
	if !slices.Equal(spans, want) {
		t.Fatal(n, l, spans, want)
	}
	log := 0
	for 1<<log <= len(l) {
		log++
	}
	unions := 0
	for _, x := range spans {
		count := stands(x, 0, len(l), 1, 0)
		if count > 2*log {
			t.Fatal(x, count)
		}
		unions += count
	}
	if got, err := connectivity.Unions(n, l); got != unions || err != api.OK {
		t.Fatal(n, l, got, err, unions)
	}
	checkSolution(t, n, l, spans)
}

func checkSolution(t *testing.T, n int, l []api.EdgeEvent, spans [][4]int) {
	t.Helper()
	var answers []bool
	var counts []int
	for i, e := range l {
		var edges [][2]int
		for _, x := range spans {
			if x[2] <= i && i < x[3] {
				edges = append(edges, [2]int{x[0], x[1]})
			}
		}
		sets := names(n, edges)
		counts = append(counts, countSets(sets))
		if e.Kind == 3 {
			answers = append(answers, sets[e.A] == sets[e.B])
		}
	}
	if a, c, err := connectivity.Solve(n, l); !slices.Equal(a, answers) || !slices.Equal(c, counts) || err != api.OK {
		t.Fatal(n, l, a, answers, c, counts, err)
	}
}

// P38.3, P38.4, and P38.6
func TestEvents(t *testing.T) {
	for _, n := range []int{1, 2, 3, 6, 20} {
		r := numbers(n)
		for size := range 70 {
			checkEvents(t, n, r.events(n, size))
		}
		checkEvents(t, n, r.events(n, 300))
	}
	r := numbers(1)
	before := r.events(5, 40)
	l := slices.Clone(before)
	checkEvents(t, 5, l)
	if !slices.Equal(l, before) {
		t.Error("arguments were changed")
	}
}

func TestExample(t *testing.T) {
	l := []api.EdgeEvent{event(1, 0, 1), event(3, 0, 1), event(2, 1, 0), event(3, 0, 1)}
	if x, err := connectivity.Intervals(3, l); !slices.Equal(x, [][4]int{{0, 1, 0, 2}}) || err != api.OK {
		t.Error(x, err)
	}
	if a, c, err := connectivity.Solve(3, l); !slices.Equal(a, []bool{true, false}) || !slices.Equal(c, []int{2, 2, 3, 3}) || err != api.OK {
		t.Error(a, c, err)
	}
	if x, err := connectivity.Unions(3, l); x != 1 || err != api.OK {
		t.Error(x, err)
	}
	if x, err := connectivity.Bridges(3, [][2]int{{0, 1}, {1, 2}, {2, 1}}); !slices.Equal(x, []int{0}) || err != api.OK {
		t.Error(x, err)
	}
}

func TestInvalidEvents(t *testing.T) {
	long := slices.Repeat([]api.EdgeEvent{event(3, 0, 0)}, api.MaxOps+1)
	for i, c := range []struct {
		n int
		l []api.EdgeEvent
	}{
		{0, nil}, {-1, nil}, {api.MaxList + 1, nil}, {2, long}, {2, []api.EdgeEvent{event(0, 0, 1)}}, {2, []api.EdgeEvent{event(4, 0, 1)}}, {2, []api.EdgeEvent{event(-1, 0, 1)}},
		{2, []api.EdgeEvent{event(3, 0, 2)}}, {2, []api.EdgeEvent{event(3, -1, 0)}}, {2, []api.EdgeEvent{event(3, 2, 0)}}, {2, []api.EdgeEvent{event(3, 0, -1)}},
		{2, []api.EdgeEvent{event(1, 0, 0)}}, {2, []api.EdgeEvent{event(2, 0, 1)}}, {2, []api.EdgeEvent{event(2, 0, 0)}},
		{2, []api.EdgeEvent{event(1, 0, 1), event(1, 1, 0)}}, {2, []api.EdgeEvent{event(1, 0, 1), event(2, 1, 0), event(2, 0, 1)}},
		{3, []api.EdgeEvent{event(1, 0, 1), event(2, 1, 2)}}, {2, []api.EdgeEvent{event(1, 0, 1<<62)}}, {1, []api.EdgeEvent{event(1, 0, 1)}},
	} {
		if connectivity.Valid(c.n, c.l) {
			t.Error(i)
		}
		if x, err := connectivity.Intervals(c.n, c.l); x != nil || err != api.ErrArg {
			t.Error(i, x, err)
		}
		if a, x, err := connectivity.Solve(c.n, c.l); a != nil || x != nil || err != api.ErrArg {
			t.Error(i, a, x, err)
		}
		if x, err := connectivity.Unions(c.n, c.l); x != 0 || err != api.ErrArg {
			t.Error(i, x, err)
		}
	}
	if a, x, err := connectivity.Solve(2, long[1:]); len(a) != api.MaxOps || len(x) != api.MaxOps || err != api.OK {
		t.Error(len(a), len(x), err)
	}
	checkEvents(t, api.MaxList, []api.EdgeEvent{event(1, 0, api.MaxList-1), event(3, 5, 5)})
}

// As many events as there may be.
func TestManyEvents(t *testing.T) {
	r := numbers(9)
	l := r.events(30, api.MaxOps)
	answers, counts, err := connectivity.Solve(30, l)
	if err != api.OK || len(counts) != api.MaxOps {
		t.Fatal(err)
	}
	edges := map[[2]int]bool{}
	for i, e := range l {
		edge := [2]int{min(e.A, e.B), max(e.A, e.B)}
		switch e.Kind {
		case 1:
			edges[edge] = true
		case 2:
			delete(edges, edge)
		}
		if i%20 > 0 && e.Kind != 3 {
			continue
		}
		var list [][2]int
		for x := range edges {
			list = append(list, x)
		}
		sets := names(30, list)
		if counts[i] != countSets(sets) {
			t.Fatal(i, counts[i])
		}
		if e.Kind == 3 {
			if answers[0] != (sets[e.A] == sets[e.B]) {
				t.Fatal(i)
			}
			answers = answers[1:]
		}
	}
	if n, err := connectivity.Unions(30, l); err != api.OK || n == 0 {
		t.Error(n, err)
	}
}

// P38.5: an edge is a bridge if there is a set more without it.
func TestBridges(t *testing.T) {
	for n := 1; n <= 14; n++ {
		r := numbers(n)
		for size := range 30 {
			var edges [][2]int
			for range size {
				edges = append(edges, [2]int{r.below(n), r.below(n)})
			}
			before := slices.Clone(edges)
			var want []int
			sets := countSets(names(n, edges))
			for i := range edges {
				if countSets(names(n, slices.Delete(slices.Clone(edges), i, i+1))) == sets+1 {
					want = append(want, i)
				}
			}
			if got, err := connectivity.Bridges(n, edges); !slices.Equal(got, want) || err != api.OK || !slices.Equal(edges, before) {
				t.Fatal(n, edges, got, err, want)
			}
		}
	}
	var path [][2]int
	for i := range api.MaxList - 1 {
		path = append(path, [2]int{i + 1, i})
	}
	if l, err := connectivity.Bridges(api.MaxList, path); len(l) != len(path) || err != api.OK {
		t.Error(len(l), err)
	}
	ring := append(path, [2]int{0, api.MaxList - 1})
	if l, err := connectivity.Bridges(api.MaxList, ring); len(l) != 0 || err != api.OK {
		t.Error(len(l), err)
	}
	many := append(ring, [2]int{0, 0})
	for i, c := range []struct {
		n     int
		edges [][2]int
		want  api.Errno
	}{
		{0, nil, api.ErrRange}, {api.MaxList + 1, nil, api.ErrRange}, {-1, many, api.ErrRange}, {2, [][2]int{{0, 2}}, api.ErrRange}, {2, [][2]int{{-1, 0}}, api.ErrRange},
		{2, [][2]int{{0, 1}, {2, 0}}, api.ErrRange}, {2, [][2]int{{0, -1 << 63}}, api.ErrRange}, {api.MaxList, many, api.ErrFull}, {api.MaxList - 1, many, api.ErrRange},
	} {
		if l, err := connectivity.Bridges(c.n, c.edges); l != nil || err != c.want {
			t.Error(i, l, err)
		}
	}
}
