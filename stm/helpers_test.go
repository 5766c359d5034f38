package stm_test

import (
	"reflect"
	"slices"
	"strings"
	"testing"

	"heartwood/api"
	"heartwood/bytecode"
	"heartwood/parser"
	"heartwood/vm"
)

// numbers yields numbers by a fixed rule.
type numbers int

func (n *numbers) below(limit int) int {
	*n = *n * 48271 % 2147483647
	return int(*n) % limit
}

func compile(t *testing.T, s string) api.Code {
	t.Helper()
	d, place, err := parser.Parse(s)
	if err != api.OK {
		t.Fatal(s, place, err)
	}
	c, err := bytecode.Compile(d)
	if err != api.OK {
		t.Fatal(err)
	}
	return c
}

// code reads a code with two types, with 2 fields and none, and 2 global variables; instructions are separated by
// commas, and functions by semicolons: the head of each one stands before a colon.
func code(t *testing.T, s string) api.Code {
	t.Helper()
	text := "fields 2 0\nglobals 2\n"
	for _, f := range strings.Split(s, "; ") {
		head, body, _ := strings.Cut(f, ": ")
		text += "func " + head + "\n" + strings.ReplaceAll(body, ", ", "\n") + "\n"
	}
	c, err := bytecode.Parse(text)
	if err != api.OK {
		t.Fatal(text, err)
	}
	return c
}

func call(proc string, args ...int) api.Call { return api.Call{Proc: proc, Args: args} }

// plain returns a value in which no slice is nil, so that states can be compared by reflect.
func plain(v reflect.Value) reflect.Value {
	r := reflect.New(v.Type()).Elem()
	switch v.Kind() {
	case reflect.Slice:
		r = reflect.MakeSlice(v.Type(), v.Len(), v.Len())
		for i := range v.Len() {
			r.Index(i).Set(plain(v.Index(i)))
		}
	case reflect.Struct:
		for i := range v.NumField() {
			r.Field(i).Set(plain(v.Field(i)))
		}
	default:
		r.Set(v)
	}
	return r
}

func clone(s api.Transactions) api.Transactions {
	c, _ := plain(reflect.ValueOf(s)).Interface().(api.Transactions)
	return c
}

func same(a, b api.Transactions) bool { return reflect.DeepEqual(clone(a), clone(b)) }

func isZero(s api.Transactions) bool { return same(s, api.Transactions{}) }

func isRunning(s api.Transactions, thread int) bool {
	return s.Active[thread].Running.Request.Kind != 0
}

// step does a step, as the chapter says it, by the functions of layer 15.
func step(c api.Code, s api.Transactions, thread int) api.Transactions {
	s = clone(s)
	begun := !isRunning(s, thread)
	begin := func() {
		m, _ := vm.Start(c, s.Calls[thread][0], s.Fuel)
		s.Active[thread] = api.Transaction{Running: m, Start: s.Clock}
	}
	if begun {
		begin()
		s.Begins[thread] = append(s.Begins[thread], s.Step)
	}
	q := s.Active[thread].Running.Request
	fault, commits := q.Fault, (q.Kind == api.Done || q.Kind == api.Fail) && !begun
	if q.Kind < api.Done {
		if !hasPlace(s.Mem, q) {
			fault, commits = api.ErrType, true
		} else {
			answered(c, &s, thread)
		}
	}
	if commits {
		commit(&s, thread, fault, begin)
	}
	s.Step++
	return s
}

func hasPlace(m api.Mem, q api.Request) bool {
	return q.Kind == api.Alloc || q.Node == 0 && q.Field < len(m.Globals) || q.Node > 0 && q.Node <= len(m.Nodes) && q.Field < len(m.Nodes[q.Node-1].F)
}

func field(m api.Mem, node, k int) *int {
	if node == 0 {
		return &m.Globals[k]
	}
	return &m.Nodes[node-1].F[k]
}

func answered(c api.Code, s *api.Transactions, thread int) {
	x := &s.Active[thread]
	q := x.Running.Request
	n := 0
	at := slices.IndexFunc(x.Writes, func(w [3]int) bool { return w[0] == q.Node && w[1] == q.Field })
	switch {
	case q.Kind == api.Alloc && len(s.Mem.Nodes) < api.MaxNodes:
		s.Mem.Nodes = append(s.Mem.Nodes, api.Node{Type: q.Field, F: make([]int, c.Fields[q.Field])})
		s.Versions = append(s.Versions, make([]int, c.Fields[q.Field]))
		n = len(s.Mem.Nodes)
		x.Nodes++
	case q.Kind == api.Read && at >= 0:
		n = x.Writes[at][2]
	case q.Kind == api.Read:
		n = *field(s.Mem, q.Node, q.Field)
		if !slices.Contains(x.Reads, [2]int{q.Node, q.Field}) {
			x.Reads = append(x.Reads, [2]int{q.Node, q.Field})
		}
	case q.Kind == api.Write && at >= 0:
		x.Writes[at][2] = q.Value
	case q.Kind == api.Write:
		x.Writes = append(x.Writes, [3]int{q.Node, q.Field, q.Value})
	}
	if q.Kind != api.Alloc && q.Node > 0 {
		x.Nodes++
	}
	x.Running, _ = vm.Next(c, x.Running, n)
}

func commit(s *api.Transactions, thread int, fault api.Errno, begin func()) {
	x := s.Active[thread]
	for _, r := range x.Reads {
		if s.Versions[r[0]][r[1]] > x.Start {
			s.Aborts++
			begin()
			return
		}
	}
	o := api.Outcome{Fault: fault, Cost: api.Cost{Compares: x.Running.Compares, Nodes: x.Nodes}}
	if fault == api.OK {
		o.Value = x.Running.Request.Value
		if len(x.Writes) > 0 {
			s.Clock++
		}
		for _, w := range x.Writes {
			*field(s.Mem, w[0], w[1]) = w[2]
			s.Versions[w[0]][w[1]] = s.Clock
		}
	}
	s.Order = append(s.Order, [2]int{thread, len(s.Results[thread])})
	s.Results[thread] = append(s.Results[thread], o)
	s.Ends[thread] = append(s.Ends[thread], s.Step)
	s.Calls[thread] = s.Calls[thread][1:]
	s.Active[thread] = api.Transaction{}
}

func enabled(s api.Transactions) []int {
	var l []int
	for i, calls := range s.Calls {
		if len(calls) > 0 {
			l = append(l, i)
		}
	}
	return l
}

func sameMem(a, b api.Mem) bool {
	return slices.Equal(a.Globals, b.Globals) && slices.EqualFunc(a.Nodes, b.Nodes, func(x, y api.Node) bool { return x.Type == y.Type && slices.Equal(x.F, y.F) })
}
