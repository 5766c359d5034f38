package bytecode_test

import (
	"slices"
	"strings"
	"testing"

	"heartwood/api"
	"heartwood/bytecode"
)

// P14.1

const everything = `desc d {
type T { k int; n T; on bool }
type E { }
type U { on bool; t T; k int }
var r T
var c int
var b bool
var u U
proc nothing() {
}
proc unused() int {
}
proc all(i int, q T, x bool) int {
	local j int;
	local e E;
	e = new E;
	j = -i + 1 - 2 * 3 / 4 % 5;
	if i == j and i != 0 or not (x == b) and q != nil {
		while 0 < i and i <= 9 {
			i = i - 1;
			if x { return i; } else { nothing(); all(1, nil, true); }
		}
	}
	r = if(x, nil, if(b, q.n, new T));
	r.n.k = max(r.k, min(log(j), all(c, r, r == q)));
	if u.t == nil { u.on = q.on; }
	return if(x, nil, if(x, nil, q)).k;
}
proc early() T {
	return nil;
	c = 1;
	return r;
}
}
`

// sound checks what P14.1 says of a compiled code.
func sound(t *testing.T, d api.Desc) api.Code {
	t.Helper()
	c, err := bytecode.Compile(d)
	if err != api.OK {
		t.Fatal(err)
	}
	wantCheck(t, c, 0, 0, api.OK)
	if len(c.Fields) != len(d.Types) || c.Globals != len(d.Globals) || len(c.Funcs) != len(d.Procs) {
		t.Fatal(c)
	}
	for i, typ := range d.Types {
		if c.Fields[i] != len(typ.Fields) {
			t.Error(c.Fields)
		}
	}
	for i, p := range d.Procs {
		f := c.Funcs[i]
		if f.Name != p.Name || f.Params != len(p.Params) || f.Locals < len(p.Params)+len(p.Locals) || f.Result != (p.Result != "") {
			t.Error(f)
		}
	}
	return c
}

func TestCompile(t *testing.T) {
	d := parse(t, everything)
	c := sound(t, d)
	again, _ := bytecode.Compile(parse(t, everything))
	if !same(c, again) {
		t.Error("another code")
	}
	if c, err := bytecode.Compile(parse(t, "desc d { }")); err != api.OK || !isZero(c) {
		t.Error(c, err)
	}
	ticks := 0
	for _, x := range c.Funcs[2].Code {
		if x.Op == api.ITick {
			ticks++
		}
	}
	if ticks == 0 {
		t.Error("no ticks")
	}
}

func TestCompileErrors(t *testing.T) {
	for _, d := range []api.Desc{{}, {Name: "if"}, {Name: "d", Procs: make([]api.Proc, 1)}} {
		if c, err := bytecode.Compile(d); err != api.ErrArg || !isZero(c) {
			t.Error(c, err)
		}
	}
	for _, s := range []string{"desc d { proc p() { x = 1; } }", "desc d { proc p() int { return true; } }", "desc d { invariant i = 1 }", "desc d { type T { } type T { } }"} {
		if c, err := bytecode.Compile(parse(t, s)); err != api.ErrState || !isZero(c) {
			t.Error(c, err)
		}
	}
}

// A description with many parts has a code that is not too long.
func TestLengthOfCode(t *testing.T) {
	// 12 statements with 220 nodes each.
	deep := "x and y"
	for range 18 {
		deep = "if(x or y, x != (y and " + deep + "), not x)"
	}
	body := "x = " + deep + ";"
	d := parse(t, "desc d { proc p(x bool, y bool) { "+strings.Repeat(body, 12)+" } }")
	c := sound(t, d)
	n := 0
	for _, f := range c.Funcs {
		n += len(f.Code)
	}
	if n > 100000 {
		t.Error(n)
	}
	// The greatest procedures have a code, too.
	wide := "x"
	for range 9 {
		wide = "if(" + wide + ", y, x)"
	}
	wide = strings.Repeat("("+wide+") and ", 30) + "x"
	d = parse(t, "desc d { proc p(x bool, y bool) { "+strings.Repeat("x = "+wide+";", 20)+" } }")
	d.Procs[0].Body = slices.Repeat(d.Procs[0].Body, 10)
	sound(t, d)
}
