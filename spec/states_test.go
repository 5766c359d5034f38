package spec_test

import (
	"reflect"
	"strings"
	"testing"

	"heartwood/api"
	"heartwood/model"
	"heartwood/spec"
	"heartwood/term"
)

// P7.4

func TestEncode(t *testing.T) {
	for _, c := range []struct {
		s    api.State
		want string
	}{
		{state(api.Dict), "empty()"}, {state(api.Dict, []int{0, 2}, []int{1, 0}), "entry(zero(), s(s(zero())), entry(s(zero()), zero(), empty()))"},
		{state(api.Heap), "empty()"}, {state(api.Heap, []int{0}, []int{0}, []int{2}), "item(zero(), item(zero(), item(s(s(zero())), empty())))"},
		{state(api.Seq), "empty()"}, {state(api.Seq, []int{1}, []int{0}), "cons(s(zero()), cons(zero(), empty()))"},
		{state(api.Sets), "empty()"}, {state(api.Sets, []int{0, 2}, []int{1}), "class(cons(zero(), cons(s(s(zero())), end())), class(cons(s(zero()), end()), empty()))"},
		{state(api.Range), "empty()"}, {state(api.Range, []int{0, 1, 2}, []int{1, 0, 0}), "more(pt(zero(), s(zero()), s(s(zero()))), more(pt(s(zero()), zero(), zero()), empty()))"},
		{state(api.Heap, []int{12}), "item(" + text(numeral(12)) + ", empty())"}, {state(api.Text), "empty()"}, {state(api.Text, []int{1, 0, 1}), "char(s(zero()), char(zero(), char(s(zero()), empty())))"},
	} {
		x, err := spec.Encode(c.s)
		if err != api.OK || text(x) != c.want {
			t.Error(c, text(x), err)
		}
		s, err := spec.Decode(c.s.Kind, parse(t, c.want))
		if err != api.OK || !model.Same(s, c.s) {
			t.Error(c, s, err)
		}
	}
}

func wantNoTerm(t *testing.T, s api.State, want api.Errno) {
	t.Helper()
	if x, err := spec.Encode(s); err != want || !isZero(x) {
		t.Errorf("Encode(%.80v) = %.80s %v, want %v", s, text(x), err, want)
	}
}

func TestEncodeErrors(t *testing.T) {
	for _, s := range []api.State{{}, {Kind: 7}, state(api.Dict, []int{1, 1}, []int{1, 2}), state(api.Dict, []int{1}), state(api.Sets, []int{1}), state(api.Text, []int{}), state(api.Heap, []int{13}, []int{1}), state(api.Seq, []int{1 << 21})} {
		wantNoTerm(t, s, api.ErrArg)
	}
	for _, s := range []api.State{state(api.Dict, []int{1, 13}), state(api.Dict, []int{-1, 1}), state(api.Heap, []int{13}), state(api.Seq, []int{1}, []int{-1}), state(api.Range, []int{0, 0, 13}), state(api.Range, []int{0, -1, 0}), state(api.Text, []int{0, 13}), state(api.Text, []int{255})} {
		wantNoTerm(t, s, api.ErrRange)
	}
	// Fourteen elements of a partition are too many, because of the numbers; 13 are not.
	all := []int{0, 1, 2, 3, 4, 5, 6, 7, 8, 9, 10, 11, 12}
	if x, err := spec.Encode(state(api.Sets, all)); err != api.OK || term.Size(x) != 13+78+13+3 {
		t.Error(term.Size(x), err)
	}
	wantNoTerm(t, state(api.Sets, append(all, 13)), api.ErrRange)
	if x, err := spec.Encode(state(api.Dict, []int{0, 12}, []int{12, 0})); err != api.OK || term.Depth(x) != 15 {
		t.Error(term.Depth(x), err)
	}
	// The depth is limited, and then the size; numbers come first.
	chars := make([]int, 60)
	if x, err := spec.Encode(state(api.Text, chars[:58])); err != api.OK || term.Depth(x) != 60-1 {
		t.Error(term.Depth(x), err)
	}
	if x, err := spec.Encode(state(api.Text, chars[:59])); err != api.OK || term.Depth(x) != 60 {
		t.Error(term.Depth(x), err)
	}
	wantNoTerm(t, state(api.Text, chars), api.ErrFull)
	chars[59] = 13
	wantNoTerm(t, state(api.Text, chars), api.ErrRange)
	var points [][]int
	for i := range 39 {
		points = append(points, []int{10 + i/13, i % 13, 12})
	}
	wantNoTerm(t, state(api.Range, points...), api.ErrFull)
	if x, err := spec.Encode(state(api.Range, points[:20]...)); err != api.OK || term.Size(x) == 0 {
		t.Error(term.Size(x), err)
	}
}

func wantNoState(t *testing.T, kind int, x api.Term, want api.Errno) {
	t.Helper()
	if s, err := spec.Decode(kind, x); err != want || !isZeroState(s) {
		t.Errorf("Decode(%d, %s) = %v %v, want %v", kind, text(x), s, err, want)
	}
}

func TestDecodeErrors(t *testing.T) {
	for _, kind := range wrongKinds() {
		wantNoState(t, kind, op("empty"), api.ErrArg)
	}
	for _, x := range []string{"nothing()", "empty(zero())", "entry(zero(), empty())", "entry(empty(), zero(), empty())", "X:other", "item(zero(), empty())"} {
		wantNoState(t, api.Dict, parse(t, x), api.ErrArg)
	}
	wantNoState(t, api.Heap, tower(api.MaxNest, op("zero")), api.ErrArg)
	thirteen := text(numeral(13))
	for _, c := range []struct {
		kind int
		x    string
	}{
		{api.Dict, "zero()"}, {api.Dict, "X:dict"}, {api.Dict, "empty:dict"}, {api.Dict, "put(empty(), zero(), zero())"}, {api.Dict, "entry(zero(), X:nat, empty())"}, {api.Dict, "entry(zero(), zero:nat, empty())"}, {api.Dict, "entry(s(rank(empty(), zero())), zero(), empty())"},
		{api.Dict, "entry(zero(), zero(), entry(zero(), zero(), empty()))"}, {api.Dict, "entry(s(zero()), zero(), entry(zero(), zero(), empty()))"}, {api.Dict, "entry(zero(), zero(), X:dict)"}, {api.Dict, "entry(" + thirteen + ", zero(), empty())"},
		{api.Heap, "item(s(zero()), item(zero(), empty()))"}, {api.Heap, "item(zero(), deletemin(empty()))"}, {api.Heap, "none()"}, {api.Heap, "item(" + thirteen + ", empty())"}, {api.Heap, "X:heap"},
		{api.Seq, "cons(zero(), X:seq)"}, {api.Seq, "s(zero())"},
		{api.Sets, "class(end(), empty())"}, {api.Sets, "class(cons(zero(), end()), class(end(), empty()))"}, {api.Sets, "class(cons(s(zero()), end()), empty())"}, {api.Sets, "class(cons(zero(), X:list), empty())"}, {api.Sets, "class(X:list, empty())"}, {api.Sets, "class(end:list, empty())"}, {api.Sets, "end()"}, {api.Sets, "cons(zero(), end())"},
		{api.Sets, "class(cons(s(zero()), end()), class(cons(zero(), end()), empty()))"}, {api.Sets, "class(cons(s(zero()), cons(zero(), end())), empty())"}, {api.Sets, "class(cons(zero(), cons(zero(), end())), empty())"},
		{api.Range, "more(X:pt, empty())"}, {api.Range, "more(pt(zero(), zero(), X:nat), empty())"}, {api.Range, "more(pt(zero(), zero(), zero()), more(pt(zero(), zero(), s(zero())), empty()))"}, {api.Range, "pt(zero(), zero(), zero())"},
		{api.Text, "char(zero(), T:text)"}, {api.Text, "char(X:nat, empty())"}, {api.Text, "append(empty(), empty())"}, {api.Text, "char(" + thirteen + ", empty())"},
	} {
		wantNoState(t, c.kind, parse(t, c.x), api.ErrShape)
	}
}

func TestDecodeIsNew(t *testing.T) {
	n := numbers(3)
	for _, kind := range kinds() {
		for range 40 {
			s := grown(t, &n, kind, 8)
			rows := cloneRows(s.Rows)
			x, err := spec.Encode(s)
			if err != api.OK {
				t.Fatal(s, err)
			}
			back, err := spec.Decode(kind, x)
			if err != api.OK || !model.Same(back, s) || !reflect.DeepEqual(cloneRows(s.Rows), rows) {
				t.Fatal(s, back, err)
			}
			for i := range back.Rows {
				back.Rows[i] = append(back.Rows[i][:0], 99)
			}
			if again, _ := spec.Decode(kind, x); !model.Same(again, s) {
				t.Fatal(again)
			}
			if len(x.L) > 0 {
				want := clone(x.L[len(x.L)-1])
				spoil(x.L[0])
				if !same(want, x.L[len(x.L)-1]) {
					t.Fatal("parts share memory")
				}
			}
		}
	}
}

// P7.5

func TestQuery(t *testing.T) {
	for _, c := range []struct {
		kind    int
		x, o, r string
	}{
		{api.Dict, "empty()", "put 1 2", "put(empty(), s(zero()), s(s(zero())))"}, {api.Dict, "D:dict", "get 0", "get(D:dict, zero())"}, {api.Dict, "empty()", "size", "size(empty())"}, {api.Dict, "put(D:dict, zero(), zero())", "select 1", "select(put(D:dict, zero(), zero()), s(zero()))"},
		{api.Heap, "empty()", "min", "least(empty())"}, {api.Heap, "empty()", "insert 1", "insert(empty(), s(zero()))"}, {api.Heap, "H:heap", "deletemin", "deletemin(H:heap)"},
		{api.Seq, "empty()", "sum 0 1", "sum(empty(), zero(), s(zero()))"}, {api.Seq, "empty()", "reverse 1 0", "reverse(empty(), s(zero()), zero())"},
		{api.Sets, "empty()", "make", "make(empty())"}, {api.Sets, "empty()", "union 0 1", "union(empty(), zero(), s(zero()))"}, {api.Sets, "S:sets", "count", "count(S:sets)"},
		{api.Range, "empty()", "add 0 1 2", "add(empty(), pt(zero(), s(zero()), s(s(zero()))))"}, {api.Range, "empty()", "remove 1 0", "remove(empty(), pt(s(zero()), zero(), zero()))"}, {api.Range, "P:points", "count 0 1 2 0", "count(P:points, rect(zero(), s(zero()), s(s(zero())), zero()))"},
		{api.Range, "P:points", "sum 0 0 0 1", "sum(P:points, rect(zero(), zero(), zero(), s(zero())))"}, {api.Range, "empty()", "size", "size(empty())"},
		{api.Text, "empty()", "append 1 0", "append(empty(), char(s(zero()), char(zero(), empty())))"}, {api.Text, "T:text", "count 1", "count(T:text, char(s(zero()), empty()))"}, {api.Text, "T:text", "find 0", "find(T:text, char(zero(), empty()))"}, {api.Text, "T:text", "size", "size(T:text)"},
	} {
		o, err := model.Parse(c.kind, c.o)
		if err != api.OK {
			t.Fatal(c, err)
		}
		x := parse(t, c.x)
		r, err := spec.Query(c.kind, x, o)
		if err != api.OK || text(r) != c.r {
			t.Error(c, text(r), err)
		}
		spoil(x)
		if text(r) != c.r {
			t.Error("the result shares memory with the argument")
		}
	}
}

func TestQueryErrors(t *testing.T) {
	want := func(kind int, x api.Term, o api.Op, want api.Errno) {
		t.Helper()
		if r, err := spec.Query(kind, x, o); err != want || !isZero(r) {
			t.Errorf("Query = %s %v, want %v", text(r), err, want)
		}
	}
	size := api.Op{Code: api.DictSize}
	for _, kind := range wrongKinds() {
		want(kind, op("empty"), api.Op{Code: 1}, api.ErrArg)
	}
	for _, x := range []string{"zero()", "none()", "X:nat", "X:other", "nothing()", "entry(zero(), empty())", "size(empty())", "get(empty(), zero())"} {
		want(api.Dict, parse(t, x), size, api.ErrArg)
		want(api.Dict, parse(t, x), api.Op{Code: api.DictGet, Args: []int{13}}, api.ErrArg)
	}
	want(api.Sets, parse(t, "end()"), api.Op{Code: api.SetsMake}, api.ErrArg)
	want(api.Range, parse(t, "pt(zero(), zero(), zero())"), api.Op{Code: api.RangeSize}, api.ErrArg)
	for _, o := range []api.Op{{}, {Code: 9}, {Code: api.DictGet}, {Code: api.DictSize, Args: []int{1}}, {Code: api.DictGet, Args: []int{1 << 21}}} {
		want(api.Dict, op("empty"), o, api.ErrArg)
	}
	for _, n := range []int{-1, 13, api.MaxKey} {
		want(api.Dict, op("empty"), api.Op{Code: api.DictGet, Args: []int{n}}, api.ErrRange)
		want(api.Dict, op("empty"), api.Op{Code: api.DictPut, Args: []int{0, n}}, api.ErrRange)
	}
	want(api.Text, op("empty"), api.Op{Code: api.TextAppend, Args: []int{0, 13}}, api.ErrRange)
	if _, err := spec.Query(api.Text, op("empty"), api.Op{Code: api.TextAppend, Args: make([]int, 58)}); err != api.OK {
		t.Error(err)
	}
	want(api.Text, op("empty"), api.Op{Code: api.TextAppend, Args: make([]int, 59)}, api.ErrFull)
	deep := op("empty")
	for range 59 {
		deep = op("cons", op("zero"), deep)
	}
	want(api.Seq, deep, api.Op{Code: api.SeqSize}, api.ErrFull)
	want(api.Seq, deep, api.Op{Code: api.SeqGet, Args: []int{13}}, api.ErrRange)
	if _, err := spec.Query(api.Seq, deep.L[1], api.Op{Code: api.SeqSize}); err != api.OK {
		t.Error(err)
	}
}

// P7.7: the specifications agree with the model.

// plain reports whether the results of an operation are numerals, and not some(numeral) or none().
func plain(kind int, o string) bool {
	word, _, _ := strings.Cut(o, " ")
	switch word {
	case "rank", "count":
		return true
	case "size":
		return kind != api.Sets
	case "sum":
		return kind == api.Range
	}
	return false
}

func checkOp(t *testing.T, specification api.Spec, s api.State, o api.Op) {
	t.Helper()
	x, err := spec.Encode(s)
	if err != api.OK {
		t.Fatal(s, err)
	}
	q, err := spec.Query(s.Kind, x, o)
	if err != api.OK {
		t.Fatal(s, o, err)
	}
	next, res, _ := model.Apply(s, o)
	update, _ := model.IsUpdate(s.Kind, o.Code)
	word, _ := model.Text(s.Kind, o)
	want := op("none")
	switch {
	case update:
		if want, err = spec.Encode(next); err != api.OK {
			return
		}
	case res.Err == api.OK && res.N > 58:
		return
	case plain(s.Kind, word):
		want = numeral(res.N)
	case res.Err == api.OK:
		want = op("some", numeral(res.N))
	}
	got, err := spec.Eval(specification, q, api.MaxOps)
	if err != api.OK || !same(got, want) {
		t.Fatal(s, word, text(got), err, text(want))
	}
}

func TestAgreement(t *testing.T) {
	n := numbers(17)
	for _, kind := range kinds() {
		specification := builtin(t, kind)
		for range 200 {
			s := grown(t, &n, kind, n.below(7))
			checkOp(t, specification, s, randomOp(t, &n, kind, 6))
		}
	}
}

// Ground terms of a complete specification that ends have constructor terms as their normal forms.
func TestConstructorTerms(t *testing.T) {
	n := numbers(23)
	for _, kind := range kinds() {
		s := builtin(t, kind)
		for range 150 {
			x := ground(&n, s, s.Sig.Sorts[n.below(len(s.Sig.Sorts))], 5)
			r, err := spec.Eval(s, x, api.MaxOps)
			if err == api.ErrLimit || err == api.ErrFull {
				continue
			}
			if err != api.OK || !constructed(s, r) {
				t.Fatal(text(x), text(r), err)
			}
		}
	}
}

func ground(n *numbers, s api.Spec, sort string, depth int) api.Term {
	var fitting []api.Decl
	for _, d := range s.Sig.Ops {
		if d.Result == sort && (depth > 0 || len(d.Args) == 0) {
			fitting = append(fitting, d)
		}
	}
	if len(fitting) == 0 {
		for _, d := range s.Sig.Ops {
			if d.Result == sort {
				fitting = append(fitting, d)
				break
			}
		}
	}
	d := fitting[n.below(len(fitting))]
	x := op(d.Name)
	for _, arg := range d.Args {
		x.L = append(x.L, ground(n, s, arg, depth-1))
	}
	return x
}

func constructed(s api.Spec, x api.Term) bool {
	ok := false
	for _, c := range s.Ctors {
		ok = ok || c == x.Name
	}
	for _, part := range x.L {
		ok = ok && constructed(s, part)
	}
	return ok
}
