package console_test

import (
	"slices"
	"strconv"
	"strings"
	"testing"

	"heartwood/api"
	"heartwood/ast"
	"heartwood/console"
	"heartwood/heap"
	"heartwood/library"
	"heartwood/model"
	"heartwood/parser"
	"heartwood/persistent"
	"heartwood/runner"
)

// tester does lines, and checks that what is refused leaves no trace.
type tester struct {
	t *testing.T
	c *console.Console
}

func newTester(t *testing.T) tester { return tester{t, console.New()} }

// all returns all that a console tells of its things.
func (r tester) all() []string {
	l := r.c.Names()
	for _, name := range r.c.Names() {
		for _, line := range []string{"show " + name, "state " + name, "snapshot " + name + " 0", "snapshot " + name + " 2"} {
			text, err := r.c.Do(line)
			l = append(l, text, strconv.Itoa(int(err)))
		}
	}
	return l
}

func (r tester) says(line, want string) {
	r.t.Helper()
	if text, err := r.c.Do(line); text != want || err != api.OK {
		r.t.Errorf("%q = %q %v, want %q", line, text, err, want)
	}
}

func (r tester) refuses(line string, want api.Errno) {
	r.t.Helper()
	before := r.all()
	if text, err := r.c.Do(line); text != "" || err != want {
		r.t.Errorf("%q = %q %v, want %v", line, text, err, want)
	}
	if after := r.all(); !slices.Equal(before, after) {
		r.t.Errorf("%q has left a trace: %q %q", line, before, after)
	}
}

func code(err api.Errno) string { return strconv.Itoa(int(err)) }

func TestExample(t *testing.T) {
	r := newTester(t)
	r.says("new l list", "l")
	r.says("do l put 3 30", "0 4")
	r.says("do l get 3", "30 3")
	r.says("state l", "3 30")
	r.says("ratio 1/2 + 1/3", "5/6")
	r.says("unify f(X:s, b()) with f(a(), Y:s)", "X = a(); Y = b()")
}

const listLine = "desc list { type N { val int; next N } var head N var n int proc push(v int) int { local x N; x = new N; x.val = v; x.next = head; head = x; n = n + 1; return n; } proc pop() int { local v int; v = head.val; head = head.next; n = n - 1; return v; } proc flip(b bool) int { return if(b, 1, 2); } proc none() { } proc inner(x N) int { return x.val; } proc loop() { while true { n = n + 1; } } measure length(N) nil 0 = 1 + length(this.next) measure bad(N) nil 1 = this.val / 0 invariant count = n == length(head) invariant sorted(N) = this.next == nil or this.next.val <= this.val }"

// Descriptions and stores.
func TestStores(t *testing.T) {
	r := newTester(t)
	r.says(listLine, "list")
	d, _, _ := parser.Parse(listLine)
	text, _ := ast.Text(d)
	r.says("show list", text)
	r.says("store s list", "s")
	r.says("show s", "-1")
	r.says("call s 0 push 5", "1 1")
	r.says("call s 1 push 7", "2 2")
	r.says("call s 1 push -9", "3 2")
	r.says("show s", "-1 0 1 1")
	r.says("peek s 3 pop", "-9")
	r.says("peek s 0 pop", "fault "+code(api.ErrNil))
	r.says("call s 0 pop", "fault "+code(api.ErrNil))
	r.says("call s 0 loop", "fault "+code(api.ErrFuel))
	r.says("call s 2 none", "4 0")
	r.says("peek s 0 push 1099511627776", "1")
	r.says("peek s 0 push -1099511627776", "1")
	r.says("peek s 0 flip 1", "1")
	r.says("peek s 0 flip 0", "2")
	r.says("show s", "-1 0 1 1 2")
	other, _ := persistent.New(d)
	other.Call(0, api.Call{Proc: "push", Args: []int{5}}, 10000)
	other.Call(1, api.Call{Proc: "push", Args: []int{7}}, 10000)
	m, _ := other.Snapshot(2)
	text, _ = heap.Text(d, m)
	r.says("snapshot s 2", text)
	r.says("snapshot s 0", "head = nil\nn = 0\n")
	r.says("check s 2", "ok")
	r.says("check s 3", "sorted 1")
	r.says("measure s 3 length 1", "2")
	r.says("measure s 3 length 2", "1")
	r.says("measure s 0 length 0", "0")
	// A store does not need its description any more.
	r.says("drop list", "")
	r.says("call s 4 push 8", "5 3")
	if l := r.c.Names(); !slices.Equal(l, []string{"s"}) {
		t.Error(l)
	}
}

// The fuel of calls is 10,000 ticks.
func TestFuel(t *testing.T) {
	r := newTester(t)
	r.says("desc d { var n int proc count(k int) int { while 0 < k { k = k - 1; } return k; } proc more(k int) int { k = k; while 0 < k { k = k - 1; } return k; } }", "d")
	r.says("store s d", "s")
	// Two ticks for each round, and two more.
	r.says("peek s 0 count 4999", "0")
	r.says("peek s 0 count 5000", "fault "+code(api.ErrFuel))
	r.says("peek s 0 more 4998", "0")
	r.says("peek s 0 more 4999", "fault "+code(api.ErrFuel))
	r.says("call s 0 count 4999", "1 0")
	r.says("call s 0 count 5000", "fault "+code(api.ErrFuel))
}

// Instances say what the layers say.
func TestInstances(t *testing.T) {
	for _, name := range library.Names() {
		r := newTester(t)
		r.says("new x "+name, "x")
		r.says("new y "+name, "y")
		kind, _ := library.Kind(name)
		d, _ := library.Load(name)
		i, _ := runner.New(name)
		n := 7
		for range 60 {
			n = n * 48271 % 2147483647
			o := api.Op{Code: 1 + n%8}
			for _, size := range []int{0, 1, 2} {
				o.Args = []int{n / 8 % 9, n / 100 % 11}[:size]
				text, err := model.Text(kind, o)
				if err != api.OK {
					continue
				}
				next, res, cost, err := runner.Do(i, o)
				if err != api.OK {
					r.refuses("do x "+text, err)
					continue
				}
				i = next
				want := strconv.Itoa(res.N)
				if res.Err != api.OK {
					want = "error " + code(res.Err)
				}
				r.says("do x "+text, want+" "+strconv.Itoa(cost.Nodes))
			}
		}
		s, _ := runner.State(i)
		var rows []string
		for _, row := range s.Rows {
			var l []string
			for _, n := range row {
				l = append(l, strconv.Itoa(n))
			}
			rows = append(rows, strings.Join(l, " "))
		}
		r.says("state x", strings.Join(rows, "; "))
		r.says("state y", "")
		text, _ := heap.Text(d, i.Mem)
		r.says("show x", text)
	}
}

func TestTerms(t *testing.T) {
	r := newTester(t)
	r.says("unify a() with a()", "")
	r.says("unify with(X:s) with with(a())", "X = a()")
	r.says("unify f(X:s, g(Y:s)) with f(g(Z:s), X:s)", "X = g(Y:s); Z = Y:s")
	r.says("unify f( X:s , Y:s ) with f( Y:s , a() )", "X = a(); Y = a()")
	r.refuses("unify a() with b()", api.ErrNone)
	r.refuses("unify X:s with X:t", api.ErrType)
	r.refuses("unify a( with b(", api.ErrEnd)
	r.refuses("unify a with b(", api.ErrEnd)
	r.refuses("unify a) with b(", api.ErrForm)
	r.refuses("unify a() with b(", api.ErrEnd)
	r.refuses("unify a() with ?", api.ErrForm)
	r.refuses("unify a() with", api.ErrForm)
	r.refuses("unify with a()", api.ErrForm)
	r.refuses("unify a()", api.ErrForm)
	r.refuses("unify", api.ErrForm)
	r.refuses("unify with with b()", api.ErrEnd)
	r.says("greater times plus s zero than plus(s(N:nat), M:nat) with s(plus(N:nat, M:nat))", "true")
	r.says("greater times plus s zero than s(plus(N:nat, M:nat)) with plus(s(N:nat), M:nat)", "false")
	r.says("greater than with than than() with with()", "true")
	r.refuses("greater with than than than() with with()", api.ErrForm)
	r.says("greater with a than a() with with()", "false")
	r.refuses("greater a than b() with a()", api.ErrName)
	r.refuses("greater a a than a() with a()", api.ErrArg)
	r.refuses("greater 1 than a() with a()", api.ErrArg)
	r.refuses("greater a a than a( with a(", api.ErrEnd)
	r.refuses("greater a a than a() with a)", api.ErrForm)
	r.refuses("greater than a() with a()", api.ErrForm)
	r.refuses("greater a than a()", api.ErrForm)
	r.refuses("greater a than a() with", api.ErrForm)
	r.refuses("greater a than with a()", api.ErrForm)
	r.refuses("greater a", api.ErrForm)
	r.refuses("greater", api.ErrForm)
	// Texts that are much longer than the line, but not too great as terms.
	g := func(name string, n int) string {
		return "g(" + strings.TrimSuffix(strings.Repeat(name+":s, ", n), ", ") + ")"
	}
	x1, x2, x3 := g(strings.Repeat("V", 40), 6), g("X", 6), g("Y", 6)
	if text, err := r.c.Do("unify f(X:s, Y:s, Z:s, P:s) with f(" + x1 + ", " + x2 + ", " + x3 + ", " + g("Z", 3) + ")"); err != api.OK || len(text) < 35000 {
		t.Error(len(text), err)
	}
	r.refuses("unify f(X:s, Y:s, Z:s, P:s, Q:s, R:s) with f("+x1+", "+x2+", "+x3+", "+g("Z", 3)+", "+g("Z", 3)+", "+g("Z", 3)+")", api.ErrFull)
	// Terms that are too great.
	long := "unify f("
	for i := range 5 {
		long += "X" + strconv.Itoa(i) + ":s, "
	}
	var deep strings.Builder
	deep.WriteString("f(")
	for i := range 5 {
		next := "X" + strconv.Itoa(i+1) + ":s"
		deep.WriteString("g(" + strings.TrimSuffix(strings.Repeat(next+", ", 6), ", ") + "), ")
	}
	r.refuses(long+"a()) with "+deep.String()+"a())", api.ErrFull)
}

func TestRatios(t *testing.T) {
	r := newTester(t)
	for line, want := range map[string]string{"1/2 + 1/3": "5/6", "1/2 - 1/3": "1/6", "-3 * 2/9": "-2/3", "1/2 / 1/4": "2", "1/2 < 1/3": "1", "1/3 < 1/2": "-1", "2 < 2": "0", "0 - 5": "-5"} {
		r.says("ratio "+line, want)
	}
	for line, want := range map[string]api.Errno{
		"1 / 0": api.ErrZero, "2/4 + 1": api.ErrForm, "1 + 01": api.ErrForm, "1 + x": api.ErrForm, "1 ? 2": api.ErrForm, "1 + ": api.ErrForm, "1 +": api.ErrForm, "1 + 2 3": api.ErrForm, "1": api.ErrForm, "1 ++ 2": api.ErrForm,
		"1073741824 + 1": api.ErrBig, "1073741825 + 1": api.ErrForm, "x ? y": api.ErrForm, "1 <= 2": api.ErrForm,
	} {
		r.refuses("ratio "+line, want)
	}
	r.refuses("ratio", api.ErrForm)
}

// Bytes that stand in comments of descriptions, where the parser passes over them.
func TestBytes(t *testing.T) {
	r := newTester(t)
	for b := range 256 {
		line := "desc d { } #" + string([]byte{byte(b)})
		if b == ' ' || b < 32 || b > 126 {
			r.refuses(line, api.ErrForm)
		} else {
			r.says(line, "d")
			r.says("drop d", "")
		}
	}
	r.refuses("desc d {\t}", api.ErrForm)
}

// P56.2: errors of the forms, and of the table, in their order.
func TestErrors(t *testing.T) {
	r := newTester(t)
	r.says(listLine, "list")
	r.says("store s list", "s")
	r.says("new i list", "i")
	r.says("new heap leftist", "heap")
	r.says("call s 0 push 5", "1 1")
	r.says("call s 1 push 6", "2 2")
	for line, want := range map[string]api.Errno{
		"": api.ErrForm, " ": api.ErrForm, "nothing": api.ErrForm, " show s": api.ErrForm, "show s ": api.ErrForm, "show  s": api.ErrForm, "Show s": api.ErrForm, "show\ts": api.ErrForm, "show s\n": api.ErrForm, "show \x7f": api.ErrForm, "show é": api.ErrForm, "show \x80": api.ErrForm,
		"desc": api.ErrForm, "desc d": api.ErrEnd, "desc d { }  ": api.ErrForm, "desc 1 { }": api.ErrForm, "desc d { ? }": api.ErrForm, "desc d { var x T }": api.ErrName, "desc list { var x T }": api.ErrName, "desc list { }": api.ErrExists, "desc d { invariant i = 1 }": api.ErrType, "desc d { var a int var b int var c int var d int var e int var f int var g int var h int var i int }": api.ErrFull,
		"new": api.ErrForm, "new x": api.ErrForm, "new x list y": api.ErrForm, "new 1 list": api.ErrForm, "new x 1": api.ErrForm, "new var list": api.ErrForm, "new x nope": api.ErrName, "new s nope": api.ErrName, "new s list": api.ErrExists,
		"store x": api.ErrForm, "store x nope": api.ErrName, "store s nope": api.ErrName, "store s i": api.ErrType, "store s list": api.ErrExists, "store x s": api.ErrType, "store 1 list": api.ErrForm,
		"do i": api.ErrForm, "do 1 size": api.ErrForm, "do x size": api.ErrName, "do x ?": api.ErrName, "do s size": api.ErrType, "do list ?": api.ErrType, "do i ?": api.ErrForm, "do i put 1": api.ErrForm, "do i put 01 2": api.ErrForm, "do i min": api.ErrForm, "do heap get 1": api.ErrForm,
		"state": api.ErrForm, "state x": api.ErrName, "state s": api.ErrType, "state i i": api.ErrForm,
		"call s 0": api.ErrForm, "call s x push 1": api.ErrForm, "call s 0 push x": api.ErrForm, "call s 0 push 01": api.ErrForm, "call s 0 push -0": api.ErrForm, "call s 0 push +1": api.ErrForm, "call s 0 push 1099511627777": api.ErrForm, "call s 00 push 1": api.ErrForm, "call s 0 1 1": api.ErrForm, "call 1 0 push 1": api.ErrForm, "call s 0 push 1 x": api.ErrForm,
		"call x 9 nope": api.ErrName, "call i 9 nope": api.ErrType, "call list 0 push 1": api.ErrType, "call s 9 nope": api.ErrVersion, "call s -1 push 1": api.ErrVersion, "call s 0 nope": api.ErrName, "call s 0 inner 0": api.ErrShape, "call s 0 push": api.ErrSize, "call s 0 push 1 2": api.ErrSize, "call s 0 flip 2": api.ErrType,
		"peek s 0": api.ErrForm, "peek x 9 nope": api.ErrName, "peek i 9 nope": api.ErrType, "peek s 9 nope": api.ErrVersion, "peek s 0 nope": api.ErrName, "peek s 0 inner 0": api.ErrShape, "peek s 0 push": api.ErrSize, "peek s 0 flip -1": api.ErrType,
		"show": api.ErrForm, "show x": api.ErrName, "show s s": api.ErrForm, "show 1": api.ErrForm,
		"snapshot s": api.ErrForm, "snapshot s x": api.ErrForm, "snapshot x 9": api.ErrName, "snapshot i 9": api.ErrType, "snapshot s 3": api.ErrVersion, "snapshot s 0 0": api.ErrForm,
		"check s": api.ErrForm, "check x 9": api.ErrName, "check list 9": api.ErrType, "check s 9": api.ErrVersion, "check s 0 0": api.ErrForm,
		"measure s 1 length": api.ErrForm, "measure s 1 1 1": api.ErrForm, "measure s 1 length x": api.ErrForm, "measure x 9 nope 9": api.ErrName, "measure i 9 nope 9": api.ErrType, "measure s 9 nope 9": api.ErrVersion, "measure s 1 nope 9": api.ErrRange, "measure s 1 nope 1": api.ErrName, "measure s 1 bad 1": api.ErrZero, "measure s 1 length -1": api.ErrRange, "measure s 1 length 1 1": api.ErrForm,
		"drop": api.ErrForm, "drop x": api.ErrName, "drop s s": api.ErrForm,
	} {
		r.refuses(line, want)
	}
	r.says("do i get 5", "error "+code(api.ErrNone)+" 0")
	r.says("do heap deletemin", "error "+code(api.ErrEmpty)+" 0")
	r.refuses("do heap min 1", api.ErrForm)
	r.says("new b bst", "b")
	r.refuses("do b rank 1", api.ErrNone)
}

// Lines up to the limit of bytes, and texts beyond that of theirs.
func TestLong(t *testing.T) {
	r := newTester(t)
	line := "desc d { }"
	r.refuses(line+strings.Repeat("x", 1990), api.ErrForm)
	r.refuses(line+strings.Repeat("x", 1991), api.ErrFull)
	r.refuses(strings.Repeat("\n", 2001), api.ErrFull)
	r.refuses(strings.Repeat("\n", 2000), api.ErrForm)
	r.says("desc "+"d { var a int }"+strings.Repeat(" #", 3)+strings.Repeat("x", 2000-len("desc d { var a int }")-6), "d")
	r.says("desc long { type Node_with_a_long_name { first_field_with_a_long_name int; second_field_with_a_long_name int; next Node_with_a_long_name } var head Node_with_a_long_name proc grow(n int) { local x Node_with_a_long_name; while 0 < n { x = new Node_with_a_long_name; x.next = head; head = x; n = n - 1; } } }", "long")
	r.says("store s long", "s")
	r.says("call s 0 grow 400", "1 0")
	if text, err := r.c.Do("snapshot s 1"); err != api.OK || len(text) < 40000 {
		t.Error(len(text), err)
	}
	r.says("call s 1 grow 400", "2 0")
	r.refuses("snapshot s 2", api.ErrFull)
	r.says("check s 2", "ok")
	r.says("new q gap", "q")
	for i := range 600 {
		r.c.Do("do q insert 0 " + strconv.Itoa(1000000-i))
	}
	text, err := r.c.Do("show q")
	if err != api.OK || !strings.Contains(text, "1000000") {
		t.Error(len(text), err)
	}
}

// At most 20 things, with different names.
func TestThings(t *testing.T) {
	r := newTester(t)
	r.says("desc d { }", "d")
	var names []string
	for i := range 19 {
		name := "x" + strconv.Itoa(i)
		names = append(names, name)
		if i%2 == 0 {
			r.says("new "+name+" rope", name)
		} else {
			r.says("store "+name+" d", name)
		}
	}
	names = append(names, "d")
	slices.Sort(names)
	if l := r.c.Names(); !slices.Equal(l, names) {
		t.Error(l, names)
	}
	r.refuses("new y rope", api.ErrFull)
	r.refuses("store y d", api.ErrFull)
	r.refuses("desc y { }", api.ErrFull)
	r.refuses("new x1 rope", api.ErrExists)
	r.refuses("desc x1 { }", api.ErrExists)
	r.refuses("new y nope", api.ErrName)
	clear(r.c.Names())
	r.says("drop x1", "")
	r.refuses("show x1", api.ErrName)
	r.says("new y rope", "y")
	r.refuses("new z rope", api.ErrFull)
	r.says("do x0 insert 0 5", "0 5")
	r.says("state x2", "")
	r.says("state x0", "5")
}

// P56.3
func TestLines(t *testing.T) {
	c := console.New()
	l, err := c.Lines([]string{"new l list", "new l list", "do l put 1 2", "", "drop l", "drop l"})
	want := []string{"l", "error " + code(api.ErrExists), "0 4", "error " + code(api.ErrForm), "", "error " + code(api.ErrName)}
	if !slices.Equal(l, want) || err != api.OK {
		t.Error(l, err)
	}
	many := slices.Repeat([]string{"new l list"}, api.MaxList+1)
	if l, err := c.Lines(many); l != nil || err != api.ErrFull || len(c.Names()) != 0 {
		t.Error(len(l), err, c.Names())
	}
	if l, err := c.Lines(many[1:]); len(l) != api.MaxList || err != api.OK {
		t.Error(len(l), err)
	}
	if l, err := c.Lines(nil); len(l) != 0 || err != api.OK {
		t.Error(l, err)
	}
}

func TestNil(t *testing.T) {
	var c *console.Console
	if text, err := c.Do(strings.Repeat("x", 3000)); text != "" || err != api.ErrArg {
		t.Error(text, err)
	}
	if l, err := c.Lines(make([]string, api.MaxList+1)); l != nil || err != api.ErrArg || c.Names() != nil {
		t.Error(l, err)
	}
	c = &console.Console{}
	if text, err := c.Do("drop x"); text != "" || err != api.ErrName {
		t.Error(text, err)
	}
	if text, err := c.Do("new x list"); text != "x" || err != api.OK || len(c.Names()) != 1 {
		t.Error(text, err)
	}
}
