package threads_test

import (
	"reflect"
	"slices"
	"strings"
	"testing"

	"heartwood/api"
	"heartwood/bytecode"
	"heartwood/parser"
	"heartwood/vm"
)

// numbers yields numbers by a fixed rule.
type numbers int

func (n *numbers) below(limit int) int {
	*n = *n * 48271 % 2147483647
	return int(*n) % limit
}

func compile(t *testing.T, s string) api.Code {
	t.Helper()
	d, place, err := parser.Parse(s)
	if err != api.OK {
		t.Fatal(s, place, err)
	}
	c, err := bytecode.Compile(d)
	if err != api.OK {
		t.Fatal(err)
	}
	return c
}

// code reads a code with two types, with 2 fields and none, and 2 global variables; instructions are separated by
// commas, and functions by semicolons: the head of each one stands before a colon.
func code(t *testing.T, s string) api.Code {
	t.Helper()
	text := "fields 2 0\nglobals 2\n"
	for _, f := range strings.Split(s, "; ") {
		head, body, _ := strings.Cut(f, ": ")
		text += "func " + head + "\n" + strings.ReplaceAll(body, ", ", "\n") + "\n"
	}
	c, err := bytecode.Parse(text)
	if err != api.OK {
		t.Fatal(text, err)
	}
	return c
}

func call(proc string, args ...int) api.Call { return api.Call{Proc: proc, Args: args} }

// plain returns a value in which no slice is nil, so that states can be compared by reflect.
func plain(v reflect.Value) reflect.Value {
	r := reflect.New(v.Type()).Elem()
	switch v.Kind() {
	case reflect.Slice:
		r = reflect.MakeSlice(v.Type(), v.Len(), v.Len())
		for i := range v.Len() {
			r.Index(i).Set(plain(v.Index(i)))
		}
	case reflect.Struct:
		for i := range v.NumField() {
			r.Field(i).Set(plain(v.Field(i)))
		}
	default:
		r.Set(v)
	}
	return r
}

func clone(s api.Threads) api.Threads {
	c, _ := plain(reflect.ValueOf(s)).Interface().(api.Threads)
	return c
}

func same(a, b api.Threads) bool { return reflect.DeepEqual(clone(a), clone(b)) }

func isZero(s api.Threads) bool { return same(s, api.Threads{}) }

// step does a step by the functions of layer 15; it returns the access.
func step(c api.Code, s api.Threads, thread int) (api.Threads, api.Access) {
	s = clone(s)
	m := s.Running[thread]
	if len(m.Frames) == 0 {
		m, _ = vm.Start(c, s.Calls[thread][0], s.Fuel)
		s.Calls[thread] = s.Calls[thread][1:]
		s.Begins[thread] = append(s.Begins[thread], s.Step)
	}
	var made api.Access
	q := m.Request
	answer := func(n int) { m, _ = vm.Next(c, m, n) }
	switch {
	case q.Kind == api.Alloc && len(s.Mem.Nodes) == api.MaxNodes:
		answer(0)
	case q.Kind == api.Alloc:
		s.Mem.Nodes = append(s.Mem.Nodes, api.Node{Type: q.Field, F: make([]int, c.Fields[q.Field])})
		made = api.Access{Kind: api.Alloc, Node: len(s.Mem.Nodes), Field: q.Field}
		answer(len(s.Mem.Nodes))
	case q.Kind == api.Read || q.Kind == api.Write:
		values := s.Mem.Globals
		if q.Node > 0 {
			values = nil
			if q.Node <= len(s.Mem.Nodes) {
				values = s.Mem.Nodes[q.Node-1].F
			}
		}
		if q.Field >= len(values) {
			m.Request = api.Request{Kind: api.Fail, Fault: api.ErrType}
			break
		}
		made = api.Access{Kind: q.Kind, Node: q.Node, Field: q.Field}
		if q.Kind == api.Write {
			values[q.Field] = q.Value
		}
		answer(values[q.Field])
	}
	if made.Node > 0 {
		s.Nodes[thread]++
	}
	s.Running[thread] = m
	if m.Request.Kind == api.Done || m.Request.Kind == api.Fail {
		o := api.Outcome{Fault: m.Request.Fault, Value: m.Request.Value, Cost: api.Cost{Compares: m.Compares, Nodes: s.Nodes[thread]}}
		s.Results[thread] = append(s.Results[thread], o)
		s.Ends[thread] = append(s.Ends[thread], s.Step)
		s.Running[thread], s.Nodes[thread] = api.Machine{}, 0
	}
	s.Step++
	return s, made
}

func enabled(s api.Threads) []int {
	var l []int
	for i := range s.Running {
		if len(s.Running[i].Frames) > 0 || len(s.Calls[i]) > 0 {
			l = append(l, i)
		}
	}
	return l
}

func sameMem(a, b api.Mem) bool {
	return slices.Equal(a.Globals, b.Globals) && slices.EqualFunc(a.Nodes, b.Nodes, func(x, y api.Node) bool { return x.Type == y.Type && slices.Equal(x.F, y.F) })
}
