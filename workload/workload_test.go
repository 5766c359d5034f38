package workload_test

import (
	"slices"
	"strings"
	"testing"

	"heartwood/api"
	"heartwood/model"
	"heartwood/workload"
)

// numbers yields numbers by a fixed rule.
type numbers int

func (n *numbers) below(limit int) int {
	*n = *n * 48271 % 2147483647
	return int(*n) % limit
}

func op(code int, args ...int) api.Op { return api.Op{Code: code, Args: args} }

func sameOps(a, b []api.Op) bool {
	return slices.EqualFunc(a, b, func(x, y api.Op) bool { return x.Code == y.Code && slices.Equal(x.Args, y.Args) })
}

func sameProfile(a, b api.Profile) bool {
	return a.Kind == b.Kind && slices.Equal(a.Weights, b.Weights) && a.Low == b.Low && a.High == b.High
}

// words are the words of the kinds, and how many codes they have.
func words() []string { return []string{"", "dict", "heap", "seq", "sets", "range", "text"} }

func codes(kind int) int { return []int{0, 8, 4, 7, 5, 5, 4}[kind] }

func (n *numbers) op(kind int) api.Op {
	for {
		o := api.Op{Code: 1 + n.below(codes(kind))}
		for range n.below(5) {
			o.Args = append(o.Args, n.below(250))
		}
		if model.ValidOp(kind, o) {
			return o
		}
	}
}

func (n *numbers) script(kind, size int) []api.Op {
	var l []api.Op
	for range size {
		l = append(l, n.op(kind))
	}
	return l
}

// P51.1, P51.2, and P51.5: random scripts, their texts, and their profiles.
func TestScripts(t *testing.T) {
	for kind := 1; kind <= 6; kind++ {
		n := numbers(kind)
		for _, size := range []int{0, 1, 2, 7, 100, api.MaxOps} {
			l := n.script(kind, size)
			text := "script " + words()[kind] + "\n"
			p := api.Profile{Kind: kind, Weights: make([]int, codes(kind))}
			var args []int
			for _, o := range l {
				line, _ := model.Text(kind, o)
				text += line + "\n"
				p.Weights[o.Code-1]++
				args = append(args, o.Args...)
			}
			slices.Sort(args)
			if len(args) > 0 {
				p.Low, p.High = args[0], args[len(args)-1]
			}
			if s, err := workload.Text(kind, l); !workload.Valid(kind, l) || s != text || err != api.OK {
				t.Fatal(kind, size, err)
			}
			if k, got, place, err := workload.Parse(text); k != kind || !sameOps(got, l) || place != (api.Pos{}) || err != api.OK {
				t.Fatal(kind, size, k, place, err)
			}
			got, err := workload.Measure(kind, l)
			if size == 0 && (!sameProfile(got, api.Profile{}) || err != api.ErrNone) || size > 0 && (!sameProfile(got, p) || err != api.OK || !workload.ValidProfile(got)) {
				t.Fatal(kind, size, got, err, p)
			}
		}
	}
	// Operations without arguments have the span 0 to 0.
	if p, err := workload.Measure(api.Heap, []api.Op{op(api.HeapMin)}); !sameProfile(p, api.Profile{Kind: api.Heap, Weights: []int{0, 1, 0, 0}}) || err != api.OK {
		t.Error(p, err)
	}
	if p, err := workload.Measure(api.Dict, []api.Op{op(api.DictSize), op(api.DictGet, -5), op(api.DictPut, -9, -7)}); p.Low != -9 || p.High != -5 || err != api.OK {
		t.Error(p, err)
	}
}

func TestInvalidScripts(t *testing.T) {
	long := slices.Repeat([]api.Op{op(api.HeapMin)}, api.MaxOps+1)
	for i, x := range []struct {
		kind int
		l    []api.Op
	}{{0, nil}, {7, nil}, {-1, nil}, {1 << 62, nil}, {api.Heap, long}, {api.Heap, []api.Op{op(api.HeapMin), op(5)}}, {api.Heap, []api.Op{op(api.HeapInsert)}}, {api.Dict, []api.Op{op(api.DictGet, api.MaxKey+1)}}, {api.Text, []api.Op{op(api.TextAppend, 256)}}} {
		if workload.Valid(x.kind, x.l) {
			t.Error(i)
		}
		if s, err := workload.Text(x.kind, x.l); s != "" || err != api.ErrArg {
			t.Error(i, s, err)
		}
		if p, err := workload.Measure(x.kind, x.l); !sameProfile(p, api.Profile{}) || err != api.ErrArg {
			t.Error(i, p, err)
		}
		for _, most := range []int{0, 5} {
			if l, err := workload.Phases(x.kind, x.l, most); l != nil || err != api.ErrArg {
				t.Error(i, l, err)
			}
		}
	}
	// A text of exactly MaxText bytes: 12 of the first line, 263 of most others, 37 of the last one.
	l := slices.Repeat([]api.Op{op(api.TextAppend, slices.Repeat([]int{200}, 64)...)}, 249)
	last := append(slices.Repeat([]int{200}, 7), 9)
	l = append(l, op(api.TextAppend, last...))
	s, err := workload.Text(api.Text, l)
	if len(s) != api.MaxText || err != api.OK {
		t.Fatal(len(s), err)
	}
	if _, got, _, err := workload.Parse(s); !sameOps(got, l) || err != api.OK {
		t.Error(err)
	}
	last[7] = 99
	l[249] = op(api.TextAppend, last...)
	if s, err := workload.Text(api.Text, l); s != "" || err != api.ErrFull {
		t.Error(len(s), err)
	}
}

func at(line int) api.Pos { return api.Pos{Line: line, Column: 1} }

// P51.2: faults and their places.
func TestParseErrors(t *testing.T) {
	many := "script heap\n" + strings.Repeat("min\n", api.MaxOps)
	for i, x := range []struct {
		s     string
		place api.Pos
		err   api.Errno
	}{
		{"", at(1), api.ErrForm}, {"\n", at(1), api.ErrForm}, {"script dict", at(1), api.ErrForm}, {"script\n", at(1), api.ErrForm}, {"script \n", at(1), api.ErrForm}, {"script map\n", at(1), api.ErrForm}, {"script  dict\n", at(1), api.ErrForm}, {"script dict \n", at(1), api.ErrForm}, {" script dict\n", at(1), api.ErrForm}, {"Script dict\n", at(1), api.ErrForm}, {"dict\n", at(1), api.ErrForm}, {"script 1\n", at(1), api.ErrForm}, {"script dict\r\n", at(1), api.ErrForm},
		{"script dict\n\n", at(2), api.ErrForm}, {"script dict\nput 1 2", at(2), api.ErrForm}, {"script dict\nput 1 2\nget\n", at(3), api.ErrForm}, {"script dict\nput 1 2\nget 1\nmin\n", at(4), api.ErrForm}, {"script heap\nmin\nmin \nget\n", at(3), api.ErrForm}, {"script heap\nmin\n min\n", at(3), api.ErrForm}, {"script heap\ninsert 01\n", at(2), api.ErrForm},
		{many + "m", at(api.MaxOps + 2), api.ErrFull}, {many + "\n", at(api.MaxOps + 2), api.ErrFull}, {many + "min\n", at(api.MaxOps + 2), api.ErrFull}, {many + "min\nmin\n", at(api.MaxOps + 2), api.ErrFull}, {strings.Replace(many, "min", "max", 1) + "min\n", at(2), api.ErrForm}, {strings.TrimSuffix(many, "\n"), at(api.MaxOps + 1), api.ErrForm},
		{"script heap\n" + strings.Repeat("x", api.MaxText), api.Pos{}, api.ErrFull}, {strings.Repeat("x", api.MaxText+1), api.Pos{}, api.ErrFull}, {strings.Repeat("x", api.MaxText), at(1), api.ErrForm},
	} {
		if kind, l, place, err := workload.Parse(x.s); kind != 0 || l != nil || place != x.place || err != x.err {
			t.Error(i, kind, l, place, err)
		}
	}
	if kind, l, place, err := workload.Parse(many); kind != api.Heap || len(l) != api.MaxOps || place != (api.Pos{}) || err != api.OK {
		t.Error(kind, len(l), place, err)
	}
}

// P51.3
func TestRandom(t *testing.T) {
	for _, seed := range []int{1, 2, 48271, 2147483646} {
		x := seed
		for n := range 2000 {
			if got, err := workload.Random(seed, n); got != x || err != api.OK {
				t.Fatal(seed, n, got, err)
			}
			x = x * 48271 % 2147483647
		}
	}
	if n, err := workload.Random(1, 2); n != 182605794 || err != api.OK {
		t.Error(n, err)
	}
	if n, err := workload.Random(1, api.MaxSteps); n == 0 || err != api.OK {
		t.Error(n, err)
	}
	for _, x := range [][2]int{{0, 0}, {-1, 0}, {2147483647, 0}, {1 << 62, 0}, {1, -1}, {1, api.MaxSteps + 1}, {1, 1 << 62}} {
		if n, err := workload.Random(x[0], x[1]); n != 0 || err != api.ErrRange {
			t.Error(x, n, err)
		}
	}
}

// generated follows the definition.
func generated(p api.Profile, seed, n int) []api.Op {
	at := 0
	next := func() int {
		at++
		x, _ := workload.Random(seed, at)
		return x
	}
	sum := 0
	for _, w := range p.Weights {
		sum += w
	}
	var l []api.Op
	for range n {
		r := next() % sum
		code, upTo := 0, 0
		for code = 1; ; code++ {
			if upTo += p.Weights[code-1]; upTo > r {
				break
			}
		}
		size := [][]int{{}, {0, 2, 1, 1, 1, 1, 1, 1, 0}, {0, 1, 0, 0, 0}, {0, 2, 1, 1, 2, 2, 2, 0}, {0, 0, 2, 2, 1, 0}, {0, 3, 2, 4, 4, 0}, {0, 1, 1, 1, 0}}[p.Kind][code]
		if p.Kind == api.Text && size == 1 {
			size = 1 + next()%3
		}
		o := api.Op{Code: code}
		for range size {
			o.Args = append(o.Args, p.Low+next()%(p.High-p.Low+1))
		}
		l = append(l, o)
	}
	return l
}

// P51.4 and P51.7
func TestGenerate(t *testing.T) {
	for kind := 1; kind <= 6; kind++ {
		n := numbers(kind)
		for range 15 {
			p := api.Profile{Kind: kind, Low: n.below(30), High: 30 + n.below(100)}
			if kind != api.Text && n.below(2) == 0 {
				p.Low, p.High = -n.below(50), n.below(5)
			}
			for range codes(kind) {
				p.Weights = append(p.Weights, n.below(3)*n.below(20))
			}
			p.Weights[n.below(codes(kind))] = 1
			seed := 1 + n.below(2147483646)
			want := generated(p, seed, 40)
			got, err := workload.Generate(p, seed, 40)
			if !sameOps(got, want) || err != api.OK || !workload.Valid(kind, got) {
				t.Fatal(p, seed, got, err, want)
			}
			if short, err := workload.Generate(p, seed, 15); !sameOps(short, got[:15]) || err != api.OK {
				t.Fatal(short, err)
			}
			m, _ := workload.Measure(kind, got)
			for i, w := range m.Weights {
				if w > 0 && p.Weights[i] == 0 {
					t.Fatal(p, m)
				}
			}
		}
	}
	p := api.Profile{Kind: api.Heap, Weights: []int{1, 0, 1, 0}, High: 9}
	if l, err := workload.Generate(p, 1, 2); !sameOps(l, []api.Op{op(api.HeapDeleteMin), op(api.HeapInsert, 6)}) || err != api.OK {
		t.Error(l, err)
	}
	if l, err := workload.Generate(p, 7, api.MaxOps); len(l) != api.MaxOps || err != api.OK {
		t.Error(len(l), err)
	}
	for _, x := range [][2]int{{0, 5}, {2147483647, 5}, {-1, 5}, {1, -1}, {1, api.MaxOps + 1}} {
		if l, err := workload.Generate(p, x[0], x[1]); l != nil || err != api.ErrRange {
			t.Error(x, l, err)
		}
	}
	if l, err := workload.Generate(p, 5, 0); len(l) != 0 || err != api.OK {
		t.Error(l, err)
	}
}

func profile(kind int, weights []int, low, high int) api.Profile {
	return api.Profile{Kind: kind, Weights: weights, Low: low, High: high}
}

func TestProfiles(t *testing.T) {
	w := []int{1, 0, 2000, 0}
	good := []api.Profile{profile(api.Heap, w, 0, 0), profile(api.Heap, w, -api.MaxKey, api.MaxKey), profile(api.Text, w, 0, 255), profile(api.Text, w, 255, 255), profile(api.Dict, []int{0, 0, 0, 0, 0, 0, 0, 1}, 5, 5)}
	for i, p := range good {
		if l, err := workload.Generate(p, 1, 3); !workload.ValidProfile(p) || len(l) != 3 || err != api.OK {
			t.Error(i, l, err)
		}
	}
	bad := []api.Profile{
		{}, profile(0, nil, 0, 0), profile(7, w, 0, 0), profile(-1, w, 0, 0), profile(api.Heap, w[:3], 0, 0), profile(api.Heap, append(slices.Clone(w), 0), 0, 0), profile(api.Heap, nil, 0, 0), profile(api.Dict, w, 0, 0), profile(api.Heap, make([]int, 4), 0, 0), profile(api.Heap, []int{1, -1, 0, 0}, 0, 0), profile(api.Heap, []int{1, 0, 0, api.MaxOps + 1}, 0, 0), profile(api.Heap, []int{1 << 62, 1 << 62, 1 << 62, 1 << 62}, 0, 0),
		profile(api.Heap, w, 1, 0), profile(api.Heap, w, -api.MaxKey-1, 0), profile(api.Heap, w, 0, api.MaxKey+1), profile(api.Text, w, -1, 5), profile(api.Text, w, 0, 256), profile(api.Text, w, 6, 5),
	}
	for i, p := range bad {
		if l, err := workload.Generate(p, 0, -1); workload.ValidProfile(p) || l != nil || err != api.ErrArg {
			t.Error(i, l, err)
		}
	}
}

// cost is the unevenness of a division.
func cost(l []api.Op, begins []int) int {
	sum := 0
	for i, begin := range begins {
		end := len(l)
		if i+1 < len(begins) {
			end = begins[i+1]
		}
		counts := map[int]int{}
		most := 0
		for _, o := range l[begin:end] {
			counts[o.Code]++
			most = max(most, counts[o.Code])
		}
		sum += end - begin - most
	}
	return sum
}

// best finds the best division of all.
func best(l []api.Op, most int) []int {
	var found []int
	for mask := range 1 << (len(l) - 1) {
		begins := []int{0}
		for i := range len(l) - 1 {
			if mask>>i&1 == 1 {
				begins = append(begins, i+1)
			}
		}
		if len(begins) > most {
			continue
		}
		if found == nil {
			found = begins
			continue
		}
		a, b := cost(l, begins), cost(l, found)
		if a < b || a == b && (len(begins) < len(found) || len(begins) == len(found) && slices.Compare(begins, found) < 0) {
			found = begins
		}
	}
	return found
}

// P51.6 and P51.7
func TestPhases(t *testing.T) {
	n := numbers(6)
	for size := 1; size <= 10; size++ {
		for range 12 {
			var l []api.Op
			for range size {
				l = append(l, op([]int{api.DictSize, api.DictGet, api.DictRank}[n.below(3)], 1))
				if l[len(l)-1].Code == api.DictSize {
					l[len(l)-1].Args = nil
				}
			}
			last := size
			for most := 1; most <= 12; most++ {
				got, err := workload.Phases(api.Dict, l, most)
				if want := best(l, most); !slices.Equal(got, want) || err != api.OK {
					t.Fatal(l, most, got, err, want)
				}
				if c := cost(l, got); c > last || most >= size && c > 0 {
					t.Fatal(l, most, got, c)
				} else {
					last = c
				}
			}
		}
	}
	l := []api.Op{op(api.HeapInsert, 1), op(api.HeapInsert, 2), op(api.HeapMin), op(api.HeapMin)}
	if got, err := workload.Phases(api.Heap, l, 2); !slices.Equal(got, []int{0, 2}) || err != api.OK {
		t.Error(got, err)
	}
	for most, want := range map[int]api.Errno{0: api.ErrRange, -1: api.ErrRange, 21: api.ErrRange, 1 << 62: api.ErrRange, 20: api.OK} {
		if got, err := workload.Phases(api.Heap, l, most); err != want || (got == nil) != (err != api.OK) {
			t.Error(most, got, err)
		}
		if want == api.OK {
			want = api.ErrNone
		}
		if got, err := workload.Phases(api.Heap, nil, most); err != want || got != nil {
			t.Error(most, got, err)
		}
	}
}

// The longest scripts: with as many phases as there may be.
func TestLongPhases(t *testing.T) {
	var l []api.Op
	for i := range api.MaxOps {
		o := op(api.DictGet, i)
		if i/100%2 == 0 {
			o = op(api.DictRank, i)
		}
		l = append(l, o)
	}
	got, err := workload.Phases(api.Dict, l, 20)
	if err != api.OK || len(got) != 20 || cost(l, got) != 0 || got[7] != 700 {
		t.Error(got, err)
	}
	got, err = workload.Phases(api.Dict, l, 19)
	if err != api.OK || len(got) != 18 || cost(l, got) != 100 {
		t.Error(got, err, cost(l, got))
	}
}

func TestSharing(t *testing.T) {
	l := []api.Op{op(api.HeapInsert, 3)}
	p := api.Profile{Kind: api.Heap, Weights: []int{1, 0, 0, 0}}
	got, _ := workload.Generate(p, 1, 3)
	got[0].Args[0] = 9
	m, _ := workload.Measure(api.Heap, l)
	clear(m.Weights)
	if again, _ := workload.Generate(p, 1, 3); again[0].Args[0] != 0 || l[0].Args[0] != 3 || p.Weights[0] != 1 {
		t.Error(again, l, p)
	}
}
