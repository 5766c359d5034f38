package persistent_test

import (
	"slices"
	"testing"

	"heartwood/api"
	"heartwood/eval"
	"heartwood/heap"
	"heartwood/library"
	"heartwood/parser"
	"heartwood/persistent"
)

// numbers yields numbers by a fixed rule.
type numbers int

func (n *numbers) below(limit int) int {
	*n = *n * 48271 % 2147483647
	return int(*n) % limit
}

func parse(t *testing.T, s string) api.Desc {
	t.Helper()
	d, place, err := parser.Parse(s)
	if err != api.OK {
		t.Fatal(s, place, err)
	}
	return d
}

const listText = `desc list {
type N { val int; next N }
var head N
proc push(n int) { local x N; x = new N; x.val = n; x.next = head; head = x; }
proc top() int { return head.val; }
}`

// mixedText has cycles, several types, nodes that are lost, writes without effect, and faults after changes.
const mixedText = `desc mixed {
type N { val int; next N; flag bool; own B }
type B { back N; other B }
type E { }
var head N
var last B
var count int
var on bool
var e E
proc push(n int) int { local x N; x = new N; x.val = n; x.next = head; x.own = last; head = x; count = count + 1; return count; }
proc ring() { local x N; x = head; if x == nil { return; } while x.next != nil and not x.flag { x.flag = true; x = x.next; } x.next = head; }
proc box() { local b B; b = new B; b.back = head; b.other = last; last = b; if head != nil { head.own = b; } }
proc waste(n int) { local i int; while i < n { i = i + 1; last = new B; } last = nil; }
proc same() { head.val = head.val; head.val = head.val; count = count; }
proc drop() { head = head.next; }
proc set(n int, f bool) { head.val = n; head.flag = f; on = f; }
proc deep(n int) { head.next.val = n; }
proc zero(n int) int { head.val = 7; count = 99; e = new E; return n / 0; }
proc loop() { while true { head = new N; } }
proc sum(n int) int { local s int; local x N; x = head; while 0 < n and x != nil { s = s + x.val; x = x.next; n = n - 1; } return s; }
proc inner(x N) int { return x.val; }
proc made() N { return new N; }
proc many() { local i int; while i < 200 { push(i); i = i + 1; } }
}`

// version is what is known of a version: its snapshot, and the numbers of its nodes in the store.
type version struct {
	mem  api.Mem
	ids  []int
	path []api.Call
}

// tester has a store, and all that it should tell.
type tester struct {
	t        *testing.T
	d        api.Desc
	store    *persistent.Store
	parents  []int
	versions []version
	nodes    int
	writes   int
}

func newTester(t *testing.T, d api.Desc) *tester {
	t.Helper()
	s, err := persistent.New(d)
	if err != api.OK || s == nil {
		t.Fatal(err)
	}
	m, _ := heap.New(d)
	r := &tester{t: t, d: d, store: s, parents: []int{-1}, versions: []version{{mem: m}}}
	r.check(0, 0)
	return r
}

func sameMem(a, b api.Mem) bool {
	return slices.Equal(a.Globals, b.Globals) && slices.EqualFunc(a.Nodes, b.Nodes, func(x, y api.Node) bool { return x.Type == y.Type && slices.Equal(x.F, y.F) })
}

// call does a call in a version, and compares all that it tells with the interpreter.
func (r *tester) call(at int, c api.Call, fuel int) {
	r.t.Helper()
	before := r.versions[at]
	o, after, err := eval.Run(r.d, before.mem, c, fuel)
	if err != api.OK {
		r.t.Fatal(c, err)
	}
	if got, err := r.store.Peek(at, c, fuel); got != o || err != api.OK {
		r.t.Fatal("Peek", at, c, got, err, o)
	}
	n, got, err := r.store.Call(at, c, fuel)
	if got != o || err != api.OK {
		r.t.Fatal("Call", at, c, got, err, o)
	}
	if o.Fault != api.OK {
		if n != -1 {
			r.t.Fatal("Call", at, c, n)
		}
		return
	}
	if n != len(r.versions) {
		r.t.Fatal("Call", at, c, n, len(r.versions))
	}
	ids := slices.Clone(before.ids)
	for range after.Nodes[len(ids):] {
		r.nodes++
		ids = append(ids, r.nodes)
	}
	accesses, _ := eval.Trace(r.d, before.mem, c, fuel)
	for _, a := range accesses {
		if a.Kind == api.Write && a.Node != 0 {
			r.writes++
		}
	}
	mem, _ := heap.Canonical(r.d, after)
	v := version{mem: mem, path: append(slices.Clone(before.path), c)}
	reached, _ := heap.Reachable(r.d, after)
	for _, node := range reached {
		v.ids = append(v.ids, ids[node-1])
	}
	r.parents = append(r.parents, at)
	r.versions = append(r.versions, v)
}

// check checks what the store tells of two versions, and of all.
func (r *tester) check(a, b int) {
	r.t.Helper()
	for _, v := range []int{a, b} {
		m, err := r.store.Snapshot(v)
		if err != api.OK || !sameMem(m, r.versions[v].mem) {
			r.t.Fatal("Snapshot", v, m, err, r.versions[v].mem)
		}
	}
	shared := 0
	for _, id := range r.versions[a].ids {
		if slices.Contains(r.versions[b].ids, id) {
			shared++
		}
	}
	n, err := r.store.Shared(a, b)
	if n != shared || err != api.OK || n > min(len(r.versions[a].ids), len(r.versions[b].ids)) {
		r.t.Fatal("Shared", a, b, n, err, shared)
	}
	if v := r.store.Versions(); !slices.Equal(v.Parent, r.parents) {
		r.t.Fatal(v, r.parents)
	}
	sum, records := 0, r.store.Records()
	for _, count := range records {
		if count < 1 {
			r.t.Fatal(records)
		}
		sum += count
	}
	if r.store.Nodes() != r.nodes || r.store.Writes() != r.writes || len(records) != r.nodes || sum > r.nodes+r.writes {
		r.t.Fatal(r.store.Nodes(), r.nodes, r.store.Writes(), r.writes, len(records), sum)
	}
}

// checkPath compares the snapshot of a version with a script of the calls that led to it.
func (r *tester) checkPath(at int) {
	r.t.Helper()
	m, _ := heap.New(r.d)
	outcomes, after, err := eval.Script(r.d, m, r.versions[at].path, api.MaxFuel)
	if err != api.OK || slices.ContainsFunc(outcomes, func(o api.Outcome) bool { return o.Fault != api.OK }) {
		r.t.Fatal(err, outcomes)
	}
	snapshot, _ := r.store.Snapshot(at)
	if is, err := heap.Same(r.d, after, snapshot); !is || err != api.OK {
		r.t.Fatal(at, err)
	}
}

func call(proc string, args ...int) api.Call { return api.Call{Proc: proc, Args: args} }

// P36.1 to P36.5: random calls in random versions.
func TestStores(t *testing.T) {
	d := parse(t, mixedText)
	for seed := 1; seed <= 8; seed++ {
		n := numbers(seed)
		r := newTester(t, d)
		for round := range 200 {
			calls := []api.Call{
				call("push", n.below(9)), call("push", n.below(9)), call("ring"), call("box"), call("waste", n.below(4)), call("same"), call("drop"),
				call("set", n.below(5), n.below(2)), call("deep", n.below(5)), call("zero", 1), call("loop"), call("sum", n.below(20)),
			}
			at := max(0, len(r.versions)-1-n.below(6))
			if n.below(3) == 0 {
				at = n.below(len(r.versions))
			}
			r.call(at, calls[n.below(len(calls))], 100+n.below(3)*1000)
			if round%4 == 0 {
				r.check(n.below(len(r.versions)), n.below(len(r.versions)))
			}
		}
		for v := range r.versions {
			r.check(v, n.below(len(r.versions)))
			r.checkPath(v)
		}
	}
}

// The structures of the library: long paths, and branches of them.
func TestLibrary(t *testing.T) {
	for _, name := range library.Names() {
		d, _ := library.Load(name)
		kind, _ := library.Kind(name)
		n := numbers(kind)
		r := newTester(t, d)
		for round := range 120 {
			at := len(r.versions) - 1
			if round%10 == 9 {
				at = n.below(len(r.versions))
			}
			for _, code := range []int{1, 1 + n.below(8)} {
				for size := range 4 {
					o := api.Op{Code: code}
					for range size {
						o.Args = append(o.Args, n.below(40)-1)
					}
					if c, err := library.Bind(name, o); err == api.OK {
						r.call(at, c, 100000)
						at = len(r.versions) - 1
					}
				}
			}
			r.check(at, n.below(len(r.versions)))
		}
		r.checkPath(len(r.versions) - 1)
	}
}

func TestExample(t *testing.T) {
	r := newTester(t, parse(t, listText))
	r.call(0, call("push", 5), 100)
	r.call(1, call("push", 7), 100)
	r.call(1, call("push", 9), 100)
	for i, want := range []int{5, 7, 9} {
		if o, err := r.store.Peek(i+1, call("top"), 100); o.Value != want || err != api.OK {
			t.Error(i, o, err)
		}
	}
	if n, err := r.store.Shared(2, 3); n != 1 || err != api.OK || r.store.Nodes() != 3 {
		t.Error(n, err, r.store.Nodes())
	}
}

func TestErrors(t *testing.T) {
	d := parse(t, mixedText)
	r := newTester(t, d)
	r.call(0, call("push", 5), 100)
	expect := func(at int, c api.Call, fuel int, want api.Errno) {
		t.Helper()
		if n, o, err := r.store.Call(at, c, fuel); n != 0 || o != (api.Outcome{}) || err != want {
			t.Error("Call", at, c, fuel, n, o, err, want)
		}
		if o, err := r.store.Peek(at, c, fuel); o != (api.Outcome{}) || err != want {
			t.Error("Peek", at, c, fuel, o, err, want)
		}
		r.check(0, 1)
	}
	expect(-1, call("none"), -1, api.ErrRange)
	expect(0, call("push", 5), api.MaxFuel+1, api.ErrRange)
	expect(-1, call("none"), 10, api.ErrVersion)
	expect(2, call("push", 5), 10, api.ErrVersion)
	expect(0, call("none"), 10, api.ErrName)
	expect(0, call("inner"), 10, api.ErrShape)
	expect(0, call("inner", 0), 10, api.ErrShape)
	expect(0, call("made", 1), 10, api.ErrShape)
	expect(0, call("push"), 10, api.ErrSize)
	expect(0, call("set", api.MaxInt+1), 10, api.ErrSize)
	expect(0, call("push", 1, 2), 10, api.ErrSize)
	expect(0, call("push", api.MaxInt+1), 10, api.ErrType)
	expect(0, call("set", 1, 2), 10, api.ErrType)
	expect(0, call("set", 1, -1), 10, api.ErrType)
	for _, v := range []int{-1, 2, 1<<63 - 1, -1 << 63} {
		if m, err := r.store.Snapshot(v); m.Globals != nil || m.Nodes != nil || err != api.ErrVersion {
			t.Error(v, m, err)
		}
		for _, p := range [][2]int{{v, 0}, {0, v}} {
			if n, err := r.store.Shared(p[0], p[1]); n != 0 || err != api.ErrVersion {
				t.Error(p, n, err)
			}
		}
	}
	r.call(1, call("push", 1), 0)
	r.call(1, call("push", 1), api.MaxFuel)
	r.check(1, 2)
	for _, bad := range []api.Desc{{}, {Name: "1"}, {Name: "d", Globals: []api.Field{{Name: "a", Type: "b"}}}} {
		if s, err := persistent.New(bad); s != nil || err != api.ErrArg {
			t.Error(bad, err)
		}
	}
}

// As many versions as there may be, and snapshots with as many nodes.
func TestLimits(t *testing.T) {
	d := parse(t, mixedText)
	r := newTester(t, d)
	for range 20 {
		r.call(len(r.versions)-1, call("many"), 10000)
	}
	r.check(20, 19)
	r.call(20, call("waste", 95), 10000)
	r.call(20, call("waste", 96), 10000)
	r.call(20, call("waste", 97), 10000)
	if len(r.versions) != 23 {
		t.Fatal(len(r.versions))
	}
	r.check(21, 20)
	for len(r.versions) < api.MaxVersions {
		r.call(max(1, 25-len(r.versions)%30), call("set", len(r.versions), 1), 100)
	}
	r.check(api.MaxVersions-1, 5)
	for _, c := range []struct {
		c    api.Call
		want api.Errno
	}{{call("push", 1), api.ErrFull}, {call("zero", 1), api.ErrFull}, {call("push"), api.ErrSize}, {call("set", 0, 2), api.ErrType}} {
		if n, o, err := r.store.Call(0, c.c, 100); n != 0 || o != (api.Outcome{}) || err != c.want {
			t.Error(c, n, o, err)
		}
	}
	if o, err := r.store.Peek(0, call("push", 1), 100); o.Value != 1 || err != api.OK {
		t.Error(o, err)
	}
	r.check(0, api.MaxVersions-1)
}

func TestSharing(t *testing.T) {
	d := parse(t, listText)
	own := parse(t, listText)
	r := newTester(t, own)
	r.d = d
	r.call(0, call("push", 5), 100)
	own.Procs[0].Body[0].E[0] = api.Expr{Op: api.XNil}
	own.Types[0].Fields[0].Type = "bool"
	own.Globals[0].Type = "int"
	own.Procs[1].Name = "nothing"
	m, _ := r.store.Snapshot(1)
	m.Globals[0] = 9
	m.Nodes[0].F[0] = 9
	clear(r.store.Versions().Parent)
	clear(r.store.Records())
	r.call(1, call("push", 6), 100)
	r.call(2, call("top"), 100)
	r.check(1, 2)
	r.check(3, 2)
}

func TestNil(t *testing.T) {
	var s *persistent.Store
	for range 2 {
		if n, o, err := s.Call(0, call("a"), -1); n != 0 || o != (api.Outcome{}) || err == api.OK || s == nil && err != api.ErrArg {
			t.Error(n, o, err)
		}
		if o, err := s.Peek(0, call("a"), 0); o != (api.Outcome{}) || s == nil && err != api.ErrArg || err == api.OK {
			t.Error(o, err)
		}
		if m, err := s.Snapshot(0); m.Globals != nil || err == api.OK || s == nil && err != api.ErrArg {
			t.Error(m, err)
		}
		if n, err := s.Shared(0, 0); n != 0 || err == api.OK || s == nil && err != api.ErrArg {
			t.Error(n, err)
		}
		if s.Versions().Parent != nil || s.Nodes() != 0 || len(s.Records()) != 0 || s.Writes() != 0 {
			t.Error("values")
		}
		s = &persistent.Store{}
	}
}
