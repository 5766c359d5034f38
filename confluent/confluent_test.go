package confluent_test

import (
	"slices"
	"testing"

	"heartwood/api"
	"heartwood/confluent"
	"heartwood/eval"
	"heartwood/heap"
	"heartwood/library"
	"heartwood/parser"
	"heartwood/persistent"
)

// numbers yields numbers by a fixed rule.
type numbers int

func (n *numbers) below(limit int) int {
	*n = *n * 48271 % 2147483647
	return int(*n) % limit
}

func parse(t *testing.T, s string) api.Desc {
	t.Helper()
	d, place, err := parser.Parse(s)
	if err != api.OK {
		t.Fatal(s, place, err)
	}
	return d
}

const listText = `desc list {
type N { val int; next N }
var head N
proc push(n int) { local x N; x = new N; x.val = n; x.next = head; head = x; }
proc append(l N) { local x N; if head == nil { head = l; return; } x = head; while x.next != nil { x = x.next; } x.next = l; }
}`

// mixedText has two lists, which melds may both keep, cycles, nodes of another type, and procedures that do not meld.
const mixedText = `desc mixed {
type N { val int; next N; flag bool; own B }
type B { back N; other B }
var head N
var rest N
var box B
var count int
proc push(n int) int { local x N; x = new N; x.val = n; x.next = head; x.own = box; head = x; count = count + 1; return count; }
proc boxed() { local b B; b = new B; b.back = head; b.other = box; box = b; }
proc ring() { local x N; x = head; while x.next != nil and not x.flag { x.flag = true; x = x.next; } x.next = head; }
proc drop() { head = head.next; }
proc set(n int) { head.next.val = n; }
proc swap() { local x N; x = head; head = rest; rest = x; }
proc lose() { local x N; x = new N; x.next = head; }
proc bad(n int) int { head.val = 9; return n / 0; }
proc keep(l N) { rest = l; }
proc replace(l N) { head = l; }
proc chain(l N) int { if l == nil { return 0; } l.next = head; head = l; return l.val; }
proc under(l N) bool { head.next = l; return true; }
proc fault(l N) { head = l; box = box.other.other; }
proc same(l N) bool { return l == head; }
proc node(l N) N { return l; }
proc two(l N, n int) { head = l; }
proc none() { }
proc wrong(b B) { box = b; }
proc many() { local i int; while i < 256 { push(i); i = i + 1; } }
}`

func sameMem(a, b api.Mem) bool {
	return slices.Equal(a.Globals, b.Globals) && slices.EqualFunc(a.Nodes, b.Nodes, func(x, y api.Node) bool { return x.Type == y.Type && slices.Equal(x.F, y.F) })
}

func call(proc string, args ...int) api.Call { return api.Call{Proc: proc, Args: args} }

// version is what is known of a version.
type version struct {
	mem     api.Mem
	parents []int
	paths   int
}

// tester has a store, and what it should tell.
type tester struct {
	t        *testing.T
	d        api.Desc
	store    *confluent.Store
	versions []version
}

func newTester(t *testing.T, d api.Desc) *tester {
	t.Helper()
	s, err := confluent.New(d)
	if err != api.OK || s == nil {
		t.Fatal(err)
	}
	m, _ := heap.New(d)
	r := &tester{t, d, s, []version{{mem: m, paths: 1}}}
	r.check()
	return r
}

func (r *tester) check() {
	r.t.Helper()
	if r.store.Len() != len(r.versions) {
		r.t.Fatal(r.store.Len(), len(r.versions))
	}
	most, all := 0, 0
	for i, v := range r.versions {
		if m, err := r.store.Snapshot(i); err != api.OK || !sameMem(m, v.mem) {
			r.t.Fatal("Snapshot", i, m, err, v.mem)
		}
		if l, err := r.store.Parents(i); err != api.OK || !slices.Equal(l, v.parents) {
			r.t.Fatal("Parents", i, l, err, v.parents)
		}
		if n, err := r.store.Size(i); err != api.OK || n != len(v.mem.Nodes) {
			r.t.Fatal("Size", i, n, err)
		}
		if n, err := r.store.Effective(i); err != api.OK || n != v.paths {
			r.t.Fatal("Effective", i, n, err, v.paths)
		}
		most, all = max(most, len(v.mem.Nodes)), all+len(v.mem.Nodes)
	}
	if n := r.store.Nodes(); n < most || n > all {
		r.t.Fatal("Nodes", n, most, all)
	}
}

// add compares the results of a call or a meld with those of the interpreter, and notes the version.
func (r *tester) add(c api.Call, n int, o, want api.Outcome, err api.Errno, after api.Mem, parents ...int) {
	r.t.Helper()
	number := len(r.versions)
	if want.Fault != api.OK {
		number = -1
	}
	if n != number || o != want || err != api.OK {
		r.t.Fatal(c, n, number, o, want, err)
	}
	if n < 0 {
		return
	}
	v := version{parents: parents}
	v.mem, _ = heap.Canonical(r.d, after)
	for _, p := range parents {
		v.paths = min(v.paths+r.versions[p].paths, api.MaxInt)
	}
	r.versions = append(r.versions, v)
}

func (r *tester) call(at int, c api.Call, fuel int) {
	r.t.Helper()
	want, after, wrong := eval.Run(r.d, r.versions[at].mem, c, fuel)
	if wrong != api.OK {
		r.t.Fatal(c, wrong)
	}
	n, o, err := r.store.Call(at, c, fuel)
	r.add(c, n, o, want, err, after, at)
}

// union makes the union of two memories by its definition, and also returns the copy.
func (r *tester) union(a, b int) (api.Mem, int) {
	m, _ := heap.Canonical(r.d, r.versions[a].mem)
	other, _ := heap.Canonical(r.d, r.versions[b].mem)
	clear(other.Globals[1:])
	reached, _ := heap.Reachable(r.d, other)
	copyOf := func(n int) int {
		if n == 0 {
			return 0
		}
		return len(r.versions[a].mem.Nodes) + slices.Index(reached, n) + 1
	}
	for _, n := range reached {
		x := other.Nodes[n-1]
		for k, f := range r.d.Types[x.Type].Fields {
			if f.Type != "int" && f.Type != "bool" {
				x.F[k] = copyOf(x.F[k])
			}
		}
		m.Nodes = append(m.Nodes, x)
	}
	return m, copyOf(other.Globals[0])
}

func (r *tester) meld(a, b int, proc string, fuel int) {
	r.t.Helper()
	m, entry := r.union(a, b)
	want, after, wrong := eval.Run(r.d, m, call(proc, entry), fuel)
	if wrong != api.OK {
		r.t.Fatal(proc, wrong)
	}
	n, o, err := r.store.Meld(a, b, proc, fuel)
	r.add(call(proc), n, o, want, err, after, a, b)
}

// P40.1 to P40.4: random calls and melds of random versions.
func TestStores(t *testing.T) {
	d := parse(t, mixedText)
	for seed := 1; seed <= 10; seed++ {
		n := numbers(seed)
		r := newTester(t, d)
		at := func() int { return max(0, len(r.versions)-1-n.below(1+n.below(len(r.versions)))) }
		for round := range 150 {
			calls := []api.Call{call("push", n.below(9)), call("push", n.below(9)), call("boxed"), call("ring"), call("drop"), call("set", n.below(5)), call("swap"), call("lose"), call("bad", 1), call("none")}
			melds := []string{"keep", "replace", "chain", "under", "fault", "same"}
			a, b := at(), at()
			if n.below(3) == 0 && len(r.versions[a].mem.Nodes)+len(r.versions[b].mem.Nodes) < 300 {
				r.meld(a, b, melds[n.below(len(melds))], 500)
			} else {
				r.call(a, calls[n.below(len(calls))], 20+n.below(500))
			}
			if round%30 == 0 {
				r.check()
			}
		}
		r.check()
	}
}

func TestExample(t *testing.T) {
	r := newTester(t, parse(t, listText))
	r.call(0, call("push", 5), 100)
	r.call(0, call("push", 7), 100)
	r.meld(1, 2, "append", 100)
	r.meld(3, 3, "append", 100)
	r.check()
	m, _ := r.store.Snapshot(4)
	var values []int
	for _, n := range m.Nodes {
		values = append(values, n.F[0])
	}
	if n, err := r.store.Effective(4); n != 4 || err != api.OK || !slices.Equal(values, []int{5, 7, 5, 7}) {
		t.Error(n, err, values)
	}
}

// P40.5: without melds versions are those of layer 36; a meld with nothing is a call with nil.
func TestLaws(t *testing.T) {
	for _, name := range library.Names() {
		d, _ := library.Load(name)
		kind, _ := library.Kind(name)
		n := numbers(kind)
		r := newTester(t, d)
		other, _ := persistent.New(d)
		for range 60 {
			for size := range 3 {
				o := api.Op{Code: 1 + n.below(3)}
				for range size {
					o.Args = append(o.Args, n.below(20))
				}
				if c, err := library.Bind(name, o); err == api.OK {
					at := max(0, len(r.versions)-1-n.below(3))
					r.call(at, c, 100000)
					other.Call(at, c, 100000)
				}
			}
		}
		r.check()
		for i := range r.versions {
			if m, err := other.Snapshot(i); err != api.OK || !sameMem(m, r.versions[i].mem) {
				t.Fatal(name, i)
			}
		}
	}
	r := newTester(t, parse(t, mixedText))
	r.call(0, call("push", 1), 100)
	r.meld(1, 0, "chain", 100)
	r.meld(1, 0, "same", 100)
	r.meld(0, 0, "same", 100)
	r.call(1, call("swap"), 100)
	r.meld(1, len(r.versions)-1, "keep", 100)
	r.check()
}

// Doubling melds, as long as there is room, and paths as many as are counted.
func TestDoubling(t *testing.T) {
	r := newTester(t, parse(t, listText))
	r.call(0, call("push", 5), 100)
	for i := range 12 {
		r.meld(i+1, i+1, "append", 10000)
	}
	if n, err := r.store.Size(13); n != api.MaxNodes || err != api.OK {
		t.Fatal(n, err)
	}
	r.check()
	for _, p := range [][2]int{{13, 13}, {13, 1}, {1, 13}} {
		if n, o, err := r.store.Meld(p[0], p[1], "append", 10000); n != 0 || o != (api.Outcome{}) || err != api.ErrFull {
			t.Error(p, n, o, err)
		}
	}
	r.meld(13, 0, "append", 10000)
	r.meld(0, 13, "append", 10000)
	r.check()
	r = newTester(t, parse(t, mixedText))
	for i := range 45 {
		r.meld(i, i, "same", 100)
	}
	if n, err := r.store.Effective(45); n != api.MaxInt || err != api.OK {
		t.Error(n, err)
	}
	r.check()
}

func TestErrors(t *testing.T) {
	d := parse(t, mixedText)
	r := newTester(t, d)
	r.call(0, call("push", 5), 100)
	for _, x := range []struct {
		at   int
		c    api.Call
		fuel int
		want api.Errno
	}{
		{-1, call("nope"), -1, api.ErrRange}, {0, call("push", 5), api.MaxFuel + 1, api.ErrRange}, {-1, call("nope"), 9, api.ErrVersion}, {2, call("push", 5), 9, api.ErrVersion},
		{0, call("nope"), 9, api.ErrName}, {0, call("keep", 0), 9, api.ErrShape}, {0, call("node", 0), 9, api.ErrShape}, {0, call("push"), 9, api.ErrSize}, {0, call("push", api.MaxInt+1), 9, api.ErrType},
	} {
		if n, o, err := r.store.Call(x.at, x.c, x.fuel); n != 0 || o != (api.Outcome{}) || err != x.want {
			t.Error(x, n, o, err)
		}
	}
	for _, x := range []struct {
		a, b int
		proc string
		fuel int
		want api.Errno
	}{
		{-1, 9, "nope", -1, api.ErrRange}, {0, 1, "keep", api.MaxFuel + 1, api.ErrRange}, {-1, 0, "nope", 9, api.ErrVersion}, {0, 2, "keep", 9, api.ErrVersion}, {2, 0, "keep", 9, api.ErrVersion}, {0, -1, "keep", 9, api.ErrVersion},
		{0, 1, "nope", 9, api.ErrName}, {0, 1, "node", 9, api.ErrShape}, {0, 1, "two", 9, api.ErrShape}, {0, 1, "none", 9, api.ErrShape}, {0, 1, "wrong", 9, api.ErrShape}, {0, 1, "push", 9, api.ErrShape},
	} {
		if n, o, err := r.store.Meld(x.a, x.b, x.proc, x.fuel); n != 0 || o != (api.Outcome{}) || err != x.want {
			t.Error(x, n, o, err)
		}
	}
	for _, v := range []int{-1, 2, 1<<63 - 1, -1 << 63} {
		if m, err := r.store.Snapshot(v); m.Globals != nil || err != api.ErrVersion {
			t.Error(m, err)
		}
		if l, err := r.store.Parents(v); l != nil || err != api.ErrVersion {
			t.Error(l, err)
		}
		if n, err := r.store.Size(v); n != 0 || err != api.ErrVersion {
			t.Error(n, err)
		}
		if n, err := r.store.Effective(v); n != 0 || err != api.ErrVersion {
			t.Error(n, err)
		}
	}
	for _, fuel := range []int{0, api.MaxFuel} {
		r.call(1, call("push", 5), fuel)
		r.meld(1, 1, "same", fuel)
	}
	r.check()
	for _, bad := range []api.Desc{{}, {Name: "1"}, {Name: "d", Globals: []api.Field{{Name: "a", Type: "b"}}}} {
		if s, err := confluent.New(bad); s != nil || err != api.ErrArg {
			t.Error(bad, err)
		}
	}
	// A procedure cannot meld if the first global variable is no reference, or there is none.
	for _, text := range []string{"desc d { type T { k int } var c int var r T proc p(x T) { } proc q(n int) { } }", "desc d { type T { k int } proc p(x T) { } }"} {
		s, _ := confluent.New(parse(t, text))
		if n, _, err := s.Meld(0, 0, "p", 9); n != 0 || err != api.ErrShape {
			t.Error(n, err)
		}
	}
}

// As many versions as there may be.
func TestLimits(t *testing.T) {
	r := newTester(t, parse(t, mixedText))
	r.call(0, call("push", 1), 100)
	for len(r.versions) < api.MaxVersions {
		r.call(len(r.versions)%7/3%2, call("push", 1), 100)
	}
	for _, x := range []struct {
		c    api.Call
		want api.Errno
	}{{call("push", 1), api.ErrFull}, {call("bad", 1), api.ErrFull}, {call("push"), api.ErrSize}, {call("push", 1<<60), api.ErrType}} {
		if n, o, err := r.store.Call(0, x.c, 100); n != 0 || o != (api.Outcome{}) || err != x.want {
			t.Error(x, n, o, err)
		}
	}
	if n, o, err := r.store.Meld(0, 0, "same", 100); n != 0 || o != (api.Outcome{}) || err != api.ErrFull {
		t.Error(n, o, err)
	}
	if n, o, err := r.store.Meld(0, 0, "two", 100); n != 0 || o != (api.Outcome{}) || err != api.ErrShape {
		t.Error(n, o, err)
	}
	r.check()
}

func TestSharing(t *testing.T) {
	own := parse(t, listText)
	r := newTester(t, own)
	r.d = parse(t, listText)
	r.call(0, call("push", 5), 100)
	own.Procs[0].Body[0].E[0] = api.Expr{Op: api.XNil}
	own.Globals[0].Type = "int"
	own.Types[0].Fields[1].Type = "bool"
	r.call(1, call("push", 6), 100)
	r.meld(1, 2, "append", 100)
	for v := range r.versions {
		m, _ := r.store.Snapshot(v)
		clear(m.Globals)
		for _, n := range m.Nodes {
			clear(n.F)
		}
		l, _ := r.store.Parents(v)
		clear(l)
	}
	r.check()
}

// Versions share what they have in common.
func TestShared(t *testing.T) {
	r := newTester(t, parse(t, listText))
	for i := range 100 {
		r.call(i, call("push", i), 100)
	}
	if n := r.store.Nodes(); n != 100 {
		t.Error(n)
	}
}

func TestNil(t *testing.T) {
	var s *confluent.Store
	for range 2 {
		want := api.ErrVersion
		if s == nil {
			want = api.ErrArg
		}
		if n, o, err := s.Call(0, call("p"), 0); n != 0 || o != (api.Outcome{}) || err != want {
			t.Error(n, o, err)
		}
		if n, o, err := s.Meld(0, 0, "p", 0); n != 0 || o != (api.Outcome{}) || err != want {
			t.Error(n, o, err)
		}
		if m, err := s.Snapshot(0); m.Globals != nil || err != want {
			t.Error(m, err)
		}
		if l, err := s.Parents(0); l != nil || err != want {
			t.Error(l, err)
		}
		if n, err := s.Size(0); n != 0 || err != want {
			t.Error(n, err)
		}
		if n, err := s.Effective(0); n != 0 || err != want {
			t.Error(n, err)
		}
		if s.Len() != 0 || s.Nodes() != 0 {
			t.Error("values")
		}
		s = &confluent.Store{}
	}
}
