package library_test

import (
	"crypto/sha256"
	"encoding/hex"
	"slices"
	"strconv"
	"strings"
	"testing"

	"heartwood/api"
	"heartwood/ast"
	"heartwood/eval"
	"heartwood/heap"
	"heartwood/invariant"
	"heartwood/library"
	"heartwood/model"
	"heartwood/parser"
	"heartwood/typecheck"
)

// structure is what the chapter says of a structure: its kind, the beginning of the sum of its text, and the words of
// the operations that it has.
type structure struct {
	name, sum string
	kind      int
	words     string
}

func structures() []structure {
	dict := "put get remove floor ceiling rank select size"
	return []structure{
		{"list", "9d03cdd116b5708b", api.Dict, dict},
		{"bst", "76e1eaaaea767bb3", api.Dict, "put get remove floor ceiling size"},
		{"splay", "234e8c650c27ed51", api.Dict, "put get remove floor size"},
		{"treap", "2d58bbb756b9d992", api.Dict, "put get remove size"},
		{"weightbalanced", "81f1e3f1bf6e41dd", api.Dict, dict},
		{"skewheap", "c07b5621b77f8861", api.Heap, "insert min deletemin size"},
		{"leftist", "7f73fe4bad17ee9c", api.Heap, "insert min deletemin size"},
		{"pairing", "a98134727e493bcd", api.Heap, "insert min deletemin size"},
		{"unionfind", "5b394f71d5a8cf99", api.Sets, "make union same size count"},
		{"rope", "c0515bb000ab0f99", api.Seq, "insert remove get set sum reverse size"},
		{"gap", "946bfe6ae0eb8698", api.Seq, "insert remove get set size"},
	}
}

func wrongNames() []string { return []string{"", "List", "list ", "tree", "N", "desc"} }

// P19.1

func TestNames(t *testing.T) {
	var want []string
	for _, s := range structures() {
		want = append(want, s.name)
	}
	l := library.Names()
	if !slices.Equal(l, want) || len(l) != 11 {
		t.Error(l)
	}
	l[0] = "spoilt"
	if l := library.Names(); l[0] != "list" {
		t.Error(l)
	}
}

func TestSources(t *testing.T) {
	for _, s := range structures() {
		text, err := library.Source(s.name)
		sum := sha256.Sum256([]byte(text))
		if err != api.OK || hex.EncodeToString(sum[:8]) != s.sum || !strings.HasPrefix(text, "desc "+s.name+" {\n") || !strings.HasSuffix(text, "\n}\n") {
			t.Error(s.name, err, hex.EncodeToString(sum[:8]))
		}
		kind, err := library.Kind(s.name)
		if err != api.OK || kind != s.kind {
			t.Error(s.name, kind, err)
		}
		want, _, _ := parser.Parse(text)
		d, err := library.Load(s.name)
		if err != api.OK || !ast.Same(d, want) || d.Name != s.name {
			t.Error(s.name, err)
		}
		d.Procs[0].Name, d.Types[0].Fields[0].Name = "spoilt", "spoilt"
		if d, _ := library.Load(s.name); !ast.Same(d, want) {
			t.Error("results share memory")
		}
		// The texts are written as layer 9 writes descriptions.
		if again, err := ast.Text(want); again != text || err != api.OK {
			t.Error(s.name, err)
		}
		if place, i, err := typecheck.Check(want); err != api.OK {
			t.Error(s.name, place, i, err)
		}
	}
	for _, name := range wrongNames() {
		if s, err := library.Source(name); s != "" || err != api.ErrName {
			t.Error(s, err)
		}
		if d, err := library.Load(name); d.Name != "" || err != api.ErrName {
			t.Error(d, err)
		}
		if k, err := library.Kind(name); k != 0 || err != api.ErrName {
			t.Error(k, err)
		}
		if c, err := library.Bind(name, api.Op{}); c.Proc != "" || len(c.Args) != 0 || err != api.ErrName {
			t.Error(c, err)
		}
		if r, err := library.Result(name, api.Op{}, api.Outcome{}); r.Err != 0 || r.N != 0 || err != api.ErrName {
			t.Error(r, err)
		}
	}
}

// ops returns the texts of one operation of each code of a kind.
func ops(kind int) []string {
	return map[int][]string{
		api.Dict:  {"put 3 10", "get 3", "remove -3", "floor 0", "ceiling 5", "rank 2", "select 1", "size"},
		api.Heap:  {"insert 3", "min", "deletemin", "size"},
		api.Seq:   {"insert 0 7", "remove 1", "get 2", "set 0 -7", "sum 0 1", "reverse 1 2", "size"},
		api.Sets:  {"make", "union 0 1", "same 2 3", "size 4", "count"},
		api.Range: {"size"}, api.Text: {"size"},
	}[kind]
}

func op(t *testing.T, kind int, s string) api.Op {
	t.Helper()
	o, err := model.Parse(kind, s)
	if err != api.OK {
		t.Fatal(s, err)
	}
	return o
}

// P19.2

func TestBind(t *testing.T) {
	for _, s := range structures() {
		for _, text := range ops(s.kind) {
			o := op(t, s.kind, text)
			word, _, _ := strings.Cut(text, " ")
			c, err := library.Bind(s.name, o)
			if !slices.Contains(strings.Fields(s.words), word) {
				if err != api.ErrNone || c.Proc != "" || len(c.Args) != 0 {
					t.Error(s.name, text, c, err)
				}
				continue
			}
			if word == "min" {
				word = "min_key"
			}
			if err != api.OK || c.Proc != word || !slices.Equal(c.Args, o.Args) {
				t.Error(s.name, text, c, err)
			}
			if len(c.Args) > 0 {
				c.Args[0] = 99
				if o.Args[0] == 99 {
					t.Error("the result shares memory with the argument")
				}
			}
		}
		for _, o := range []api.Op{{}, {Code: 99}, {Code: -1}, {Code: 1, Args: []int{1, 2, 3, 4, 5}}, {Code: 2, Args: []int{api.MaxKey + 1, 1}}} {
			if c, err := library.Bind(s.name, o); err != api.ErrArg || c.Proc != "" {
				t.Error(s.name, o, c, err)
			}
			if r, err := library.Result(s.name, o, api.Outcome{Value: 3}); err != api.ErrArg || r.N != 0 {
				t.Error(s.name, o, r, err)
			}
		}
	}
	// An operation that is not valid comes before one that the structure does not have.
	if _, err := library.Bind("splay", api.Op{Code: api.DictRank}); err != api.ErrArg {
		t.Error(err)
	}
	if _, err := library.Bind("splay", api.Op{Code: api.DictRank, Args: []int{1}}); err != api.ErrNone {
		t.Error(err)
	}
}

// P19.3

func TestResult(t *testing.T) {
	failures := map[int]map[string]api.Errno{
		api.Dict: {"get": api.ErrNone, "remove": api.ErrNone, "floor": api.ErrNone, "ceiling": api.ErrNone, "select": api.ErrRange},
		api.Heap: {"min": api.ErrEmpty, "deletemin": api.ErrEmpty},
		api.Seq:  {"insert": api.ErrRange, "remove": api.ErrRange, "get": api.ErrRange, "set": api.ErrRange, "sum": api.ErrRange, "reverse": api.ErrRange},
		api.Sets: {"union": api.ErrNone, "same": api.ErrNone, "size": api.ErrNone},
	}
	for _, s := range structures() {
		for _, text := range ops(s.kind) {
			o := op(t, s.kind, text)
			word, _, _ := strings.Cut(text, " ")
			has := slices.Contains(strings.Fields(s.words), word)
			want := func(x api.Outcome, err api.Errno, n int) {
				t.Helper()
				r, e := library.Result(s.name, o, x)
				if !has {
					err, n = 0, 0
				}
				if r.Err != err || r.N != n || len(r.L) != 0 || has != (e == api.OK) || !has && e != api.ErrNone {
					t.Error(s.name, text, x, r, e)
				}
			}
			cost := api.Cost{Compares: 3, Nodes: 4}
			want(api.Outcome{Value: 5, Cost: cost}, 0, 5)
			want(api.Outcome{Value: -api.MaxKey}, 0, -api.MaxKey)
			want(api.Outcome{Value: 1 - api.MaxInt}, 0, 1-api.MaxInt)
			want(api.Outcome{Fault: api.ErrNil, Cost: cost}, api.ErrNil, 0)
			want(api.Outcome{Fault: api.ErrFuel, Value: -api.MaxInt}, api.ErrFuel, 0)
			if err := failures[s.kind][word]; err != api.OK {
				want(api.Outcome{Value: -api.MaxInt}, err, 0)
			} else {
				want(api.Outcome{Value: -api.MaxInt}, 0, -api.MaxInt)
			}
		}
	}
}

// numbers yields numbers by a fixed rule.
type numbers int

func (n *numbers) below(limit int) int {
	*n = *n * 48271 % 2147483647
	return int(*n) % limit
}

// random returns an operation that a structure has; the greater the elements get, the more it removes.
func random(t *testing.T, n *numbers, s structure, size, spread int) api.Op {
	t.Helper()
	for {
		text := ops(s.kind)[n.below(len(ops(s.kind)))]
		words := strings.Fields(text)
		if !slices.Contains(strings.Fields(s.words), words[0]) {
			continue
		}
		grows := words[0] == "insert" || words[0] == "put" || words[0] == "make"
		if grows && size >= 140 || grows && n.below(150) < size/2 {
			continue
		}
		for i := range words[1:] {
			k := n.below(spread) - spread/8
			if s.kind == api.Seq || s.kind == api.Sets || words[0] == "select" {
				k = n.below(size+3) - 1
			}
			words[i+1] = strconv.Itoa(k)
		}
		return op(t, s.kind, strings.Join(words, " "))
	}
}

func count(s api.State) int {
	if s.Kind == api.Sets {
		return len(slices.Concat(s.Rows...))
	}
	return len(s.Rows)
}

// P19.4: the structures return what the models return, and their invariants hold.
func TestStructuresAreModels(t *testing.T) {
	for _, s := range structures() {
		d, _ := library.Load(s.name)
		for round, spread := range []int{12, 60, 1000, 1 << 20} {
			n := numbers(100*round + 7)
			m, _ := heap.New(d)
			state, _ := model.New(s.kind)
			for i := range 250 {
				o := random(t, &n, s, count(state), spread)
				c, err := library.Bind(s.name, o)
				if err != api.OK {
					t.Fatal(s.name, o, err)
				}
				x, after, err := eval.Run(d, m, c, api.MaxFuel)
				if err != api.OK || x.Fault != api.OK {
					t.Fatal(s.name, c, x, err)
				}
				next, want, _ := model.Apply(state, o)
				got, err := library.Result(s.name, o, x)
				if err != api.OK || got.Err != want.Err || got.N != want.N {
					t.Fatal(s.name, c, got, want)
				}
				m, state = after, next
				if i%10 == 0 {
					m, _ = heap.Canonical(d, m)
					if ok, v, err := invariant.Check(d, m); !ok || err != api.OK {
						t.Fatal(s.name, c, v, err)
					}
				}
			}
		}
	}
}

// Ascending, descending, and equal elements, one after the other.
func TestExtremes(t *testing.T) {
	for _, s := range structures() {
		d, _ := library.Load(s.name)
		for _, key := range []func(i int) int{func(i int) int { return i }, func(i int) int { return -i }, func(i int) int { return 5 }} {
			m, _ := heap.New(d)
			state, _ := model.New(s.kind)
			do := func(text string) {
				t.Helper()
				o := op(t, s.kind, text)
				c, _ := library.Bind(s.name, o)
				x, after, err := eval.Run(d, m, c, api.MaxFuel)
				next, want, _ := model.Apply(state, o)
				if got, e := library.Result(s.name, o, x); err != api.OK || e != api.OK || got.Err != want.Err || got.N != want.N {
					t.Fatal(s.name, text, x, got, want)
				}
				m, state = after, next
			}
			for i := range 149 {
				k := strconv.Itoa(key(i))
				do(map[int]string{api.Dict: "put " + k + " " + k, api.Heap: "insert " + k, api.Seq: "insert 0 " + k, api.Sets: "make"}[s.kind])
				if s.kind == api.Sets && i > 0 {
					do("union " + strconv.Itoa(i-1) + " " + strconv.Itoa(i))
				}
			}
			if ok, v, err := invariant.Check(d, m); !ok || err != api.OK {
				t.Fatal(s.name, v, err)
			}
			for i := range 149 {
				k := strconv.Itoa(key(i))
				do(map[int]string{api.Dict: "remove " + k, api.Heap: "deletemin", api.Seq: "remove 0", api.Sets: "same 0 " + strconv.Itoa(i)}[s.kind])
			}
		}
	}
}
