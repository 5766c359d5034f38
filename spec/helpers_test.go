package spec_test

import (
	"reflect"
	"slices"
	"strings"
	"testing"

	"heartwood/api"
	"heartwood/model"
	"heartwood/spec"
	"heartwood/term"
)

func parse(t *testing.T, s string) api.Term {
	t.Helper()
	x, _, err := term.Parse(s)
	if err != api.OK {
		t.Fatal(s, err)
	}
	return x
}

func parseSpec(t *testing.T, s string) api.Spec {
	t.Helper()
	x, place, err := spec.Parse(s)
	if err != api.OK {
		t.Fatal(s, place, err)
	}
	return x
}

func text(t api.Term) string {
	s, _ := term.Text(t)
	return s
}

func kinds() []int {
	return []int{api.Dict, api.Heap, api.Seq, api.Sets, api.Range, api.Text}
}

func wrongKinds() []int { return []int{0, -1, 7, 1 << 40, -1 << 63} }

func builtin(t *testing.T, kind int) api.Spec {
	t.Helper()
	s, err := spec.Builtin(kind)
	if err != api.OK {
		t.Fatal(kind, err)
	}
	return s
}

// peano is a small complete specification.
const peano = `spec zero s yes no
sort nat
sort flag
op zero() -> nat
op s(nat) -> nat
op yes() -> flag
op no() -> flag
op plus(nat, nat) -> nat
op even(nat) -> flag
op not1(flag) -> flag
rule plus(zero(), N:nat) = N:nat
rule plus(s(N:nat), M:nat) = s(plus(N:nat, M:nat))
rule even(zero()) = yes()
rule even(s(N:nat)) = not1(even(N:nat))
rule not1(yes()) = no()
rule not1(no()) = yes()
`

// changed is peano with a text replaced by another one.
func changed(t *testing.T, old, new string) string {
	t.Helper()
	if !strings.Contains(peano, old) {
		t.Fatal(old)
	}
	return strings.Replace(peano, old, new, 1)
}

func isZero(t api.Term) bool { return t.Name == "" && t.Sort == "" && len(t.L) == 0 }

func isZeroSpec(s api.Spec) bool {
	return len(s.Ctors) == 0 && len(s.Rules) == 0 && len(s.Sig.Sorts) == 0 && len(s.Sig.Ops) == 0
}

func isZeroState(s api.State) bool { return s.Kind == 0 && len(s.Rows) == 0 }

func op(name string, parts ...api.Term) api.Term { return api.Term{Name: name, L: parts} }

func tower(depth int, leaf api.Term) api.Term {
	for range depth {
		leaf = op("s", leaf)
	}
	return leaf
}

func numeral(n int) api.Term { return tower(n, op("zero")) }

func clone(t api.Term) api.Term {
	r := api.Term{Name: t.Name, Sort: t.Sort}
	for _, part := range t.L {
		r.L = append(r.L, clone(part))
	}
	return r
}

func same(a, b api.Term) bool { return reflect.DeepEqual(clone(a), clone(b)) }

func spoil(t api.Term) {
	for i := range t.L {
		spoil(t.L[i])
		t.L[i] = op("spoilt")
	}
}

func state(kind int, rows ...[]int) api.State { return api.State{Kind: kind, Rows: rows} }

// numbers yields numbers by a fixed rule.
type numbers int

func (n *numbers) below(limit int) int {
	*n = *n * 48271 % 2147483647
	return int(*n) % limit
}

// words are the texts of operations of each kind, without their arguments, and how many arguments there are.
func words(kind int) []string {
	return map[int][]string{
		api.Dict:  {"put..", "get.", "remove.", "floor.", "ceiling.", "rank.", "select.", "size"},
		api.Heap:  {"insert.", "min", "deletemin", "size"},
		api.Seq:   {"insert..", "remove.", "get.", "set..", "sum..", "reverse..", "size"},
		api.Sets:  {"make", "union..", "same..", "size.", "count"},
		api.Range: {"add...", "remove..", "count....", "sum....", "size"},
		api.Text:  {"append..", "append.", "count.", "count..", "find.", "find..", "size"},
	}[kind]
}

func randomOp(t *testing.T, n *numbers, kind, limit int) api.Op {
	t.Helper()
	l := words(kind)
	s := l[n.below(len(l))]
	for strings.HasSuffix(s, ".") {
		s = strings.Replace(s, ".", " "+string('0'+rune(n.below(limit))), 1)
	}
	o, err := model.Parse(kind, s)
	if err != api.OK {
		t.Fatal(s, err)
	}
	return o
}

// grown returns a state after some updates with small numbers.
func grown(t *testing.T, n *numbers, kind, updates int) api.State {
	t.Helper()
	s, _ := model.New(kind)
	for range updates {
		s, _, _ = model.Apply(s, randomOp(t, n, kind, 4))
	}
	return s
}

func cloneRows(rows [][]int) [][]int {
	var r [][]int
	for _, row := range rows {
		r = append(r, slices.Clone(row))
	}
	return r
}
