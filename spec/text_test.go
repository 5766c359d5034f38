package spec_test

import (
	"strconv"
	"strings"
	"testing"

	"heartwood/api"
	"heartwood/spec"
)

// P7.6

func TestText(t *testing.T) {
	s := parseSpec(t, peano)
	if x, err := spec.Text(s); x != peano || err != api.OK {
		t.Error(x, err)
	}
	if x, err := spec.Text(api.Spec{}); x != "spec\n" || err != api.OK {
		t.Error(x, err)
	}
	for i, s := range invalid(t) {
		if x, err := spec.Text(s); x != "" || err != api.ErrArg {
			t.Error(i, x, err)
		}
	}
}

func TestTextLimit(t *testing.T) {
	// One rule has a right side of 999 nodes with names of 40 bytes: about 42,000 bytes; two of them are too much.
	name := strings.Repeat("n", api.MaxName)
	var bush func(n int) api.Term
	bush = func(n int) api.Term {
		if n < 7 {
			return api.Term{Name: "a"}
		}
		x := api.Term{Name: name}
		for range 6 {
			x.L = append(x.L, bush((n-1)/6))
		}
		return x
	}
	args := []string{"x", "x", "x", "x", "x", "x"}
	s := api.Spec{Ctors: []string{"a", name}, Sig: api.Signature{Sorts: []string{"x"}, Ops: []api.Decl{{Name: "a", Result: "x"}, {Name: name, Args: args, Result: "x"}}}}
	add := func(f string, n int) {
		s.Sig.Ops = append(s.Sig.Ops, api.Decl{Name: f, Result: "x"})
		s.Rules = append(s.Rules, api.Rule{Left: api.Term{Name: f}, Right: bush(n)})
	}
	for i := range 90 {
		add("f"+strconv.Itoa(i), 900)
		x, err := spec.Text(s)
		if err == api.OK && len(x) <= api.MaxText {
			continue
		}
		if x != "" || err != api.ErrFull || i < 2 {
			t.Fatal(i, len(x), err)
		}
		break
	}
	// The limit is exact: with a last rule whose names are as long as needed.
	s.Sig.Ops, s.Rules = s.Sig.Ops[:len(s.Sig.Ops)-1], s.Rules[:len(s.Rules)-1]
	x, _ := spec.Text(s)
	left := api.MaxText - len(x)
	for i := 0; left > 200; i++ {
		f := "h" + strconv.Itoa(i)
		s.Sig.Ops = append(s.Sig.Ops, api.Decl{Name: f, Args: args, Result: "x"})
		x, _ = spec.Text(s)
		left = api.MaxText - len(x)
		if len(s.Sig.Ops) == api.MaxRules {
			break
		}
	}
	fill(t, &s, left)
}

// fill adds sorts until the text has exactly the limit, and then one byte more.
func fill(t *testing.T, s *api.Spec, left int) {
	t.Helper()
	for i := 0; left > 0 && len(s.Sig.Sorts) < 39; i++ {
		n := min(left, 46)
		if left-n > 0 && left-n < 8 {
			n -= 8
		}
		if n < 8 {
			t.Fatal("cannot fill", left)
		}
		s.Sig.Sorts = append(s.Sig.Sorts, "q"+strconv.Itoa(10+i)+strings.Repeat("z", n-6-3))
		x, err := spec.Text(*s)
		if err != api.OK {
			t.Fatal(err)
		}
		left = api.MaxText - len(x)
	}
	x, err := spec.Text(*s)
	if len(x) != api.MaxText || err != api.OK {
		t.Fatal(len(x), err)
	}
	last := len(s.Sig.Sorts) - 1
	if len(s.Sig.Sorts[last]) == api.MaxName {
		t.Fatal("no room for one more byte")
	}
	s.Sig.Sorts[last] += "z"
	if x, err := spec.Text(*s); x != "" || err != api.ErrFull {
		t.Error(len(x), err)
	}
}

func at(line, column int) api.Pos { return api.Pos{Line: line, Column: column} }

func TestParse(t *testing.T) {
	for _, c := range []struct {
		s     string
		place api.Pos
		err   api.Errno
	}{
		{"", at(1, 1), api.ErrEnd}, {"# spec", at(1, 7), api.ErrEnd}, {"sort x", at(1, 1), api.ErrForm}, {"spec 1", at(1, 6), api.ErrForm}, {"spec a !", at(1, 8), api.ErrForm},
		{"spec sort", at(1, 10), api.ErrEnd}, {"spec sort a b", at(1, 13), api.ErrForm}, {"spec sort a op", at(1, 15), api.ErrEnd}, {"spec sort a op f -> a", at(1, 18), api.ErrForm},
		{"spec sort a op f(a,) -> a", at(1, 20), api.ErrForm}, {"spec sort a op f(a) a", at(1, 21), api.ErrForm}, {"spec sort a op f(a) -> a sort b", at(1, 26), api.ErrForm},
		{"spec rule", at(1, 10), api.ErrEnd}, {"spec rule f()", at(1, 14), api.ErrEnd}, {"spec rule f() == f()", at(1, 15), api.ErrForm}, {"spec rule f() = ", at(1, 17), api.ErrEnd}, {"spec rule f() = f() f()", at(1, 21), api.ErrForm},
		{"spec\nrule f(x) = f()", at(2, 9), api.ErrForm}, {"spec rule x: = f()", at(1, 14), api.ErrForm}, {"spec rule f() = f() sort a", at(1, 21), api.ErrForm}, {"spec rule f() = f() op g() -> a", at(1, 21), api.ErrForm},
		{"spec spec", at(1, 6), api.ErrForm}, {"spec a, b", at(1, 7), api.ErrForm},
		{"spec a", at(0, 0), api.ErrArg}, {"spec sort a sort a", at(0, 0), api.ErrArg}, {"spec rule f() = f()", at(0, 0), api.ErrArg}, {"spec sort a op f() -> b", at(0, 0), api.ErrArg},
		{"spec sort a op f(a) -> a rule f(x:a) = " + strings.Repeat("f(", 60) + "x:a" + strings.Repeat(")", 60), at(0, 0), api.ErrArg},
		{"spec " + strings.Repeat(" ", api.MaxText), at(0, 0), api.ErrFull},
	} {
		if s, place, err := spec.Parse(c.s); place != c.place || err != c.err || !isZeroSpec(s) {
			t.Errorf("Parse(%.60q) = %v %v %v, want %v %v", c.s, s, place, err, c.place, c.err)
		}
	}
	x := "spec # constructors\n\ta\nsort x op a()->x op f(x,x)->x rule f(a(),y:x)=y:x"
	s, place, err := spec.Parse(x)
	if err != api.OK || place != at(0, 0) {
		t.Fatal(place, err)
	}
	if r, _ := spec.Text(s); r != "spec a\nsort x\nop a() -> x\nop f(x, x) -> x\nrule f(a(), y:x) = y:x\n" {
		t.Error(r)
	}
	if s, _, err := spec.Parse("spec"); err != api.OK || !isZeroSpec(s) {
		t.Error(s, err)
	}
}
