package bytecode_test

import (
	"slices"
	"strconv"
	"strings"
	"testing"

	"heartwood/api"
	"heartwood/bytecode"
)

// P14.2 and P14.3: heads and operands

func wantCheck(t *testing.T, c api.Code, f, i int, want api.Errno) {
	t.Helper()
	if a, b, err := bytecode.Check(c); a != f || b != i || err != want {
		t.Errorf("Check(%.200v) = %d %d %v, want %d %d %v", c, a, b, err, f, i, want)
	}
}

func TestHeads(t *testing.T) {
	ret := []api.Instr{in(api.IReturn, 0)}
	fn := func(change func(f *api.Func)) api.Code {
		f := api.Func{Name: "p", Code: ret}
		change(&f)
		return api.Code{Funcs: []api.Func{{Name: "o", Code: ret}, f}}
	}
	many := func(n int) api.Code {
		var c api.Code
		for i := range n {
			c.Funcs = append(c.Funcs, api.Func{Name: "f" + strconv.Itoa(i), Code: ret})
		}
		return c
	}
	for i, c := range []api.Code{
		{}, {Fields: slices.Repeat([]int{api.MaxFields, 0}, 6), Globals: api.MaxGlobals}, many(api.MaxProcs), fn(func(f *api.Func) { f.Params, f.Locals = api.MaxParams, api.MaxParams }), fn(func(f *api.Func) { f.Locals = 100 }),
		fn(func(f *api.Func) {
			f.Code = append(slices.Repeat([]api.Instr{in(api.ITick, 0)}, api.MaxBytes-1), ret...)
		}),
	} {
		if a, b, err := bytecode.Check(c); a != 0 || b != 0 || err != api.OK {
			t.Error(i, a, b, err)
		}
	}
	for i, c := range []api.Code{
		{Fields: make([]int, api.MaxTypes+1)}, {Fields: []int{0, -1}}, {Fields: []int{api.MaxFields + 1}}, {Globals: -1}, {Globals: api.MaxGlobals + 1}, many(api.MaxProcs + 1),
		fn(func(f *api.Func) { f.Name = "o" }), fn(func(f *api.Func) { f.Name = "" }), fn(func(f *api.Func) { f.Name = "if" }), fn(func(f *api.Func) { f.Params = -1 }), fn(func(f *api.Func) { f.Params, f.Locals = api.MaxParams+1, api.MaxParams+1 }), fn(func(f *api.Func) { f.Params, f.Locals = 2, 1 }), fn(func(f *api.Func) { f.Locals = 101 }),
		fn(func(f *api.Func) { f.Code = nil }), fn(func(f *api.Func) { f.Code = append(slices.Repeat([]api.Instr{in(api.ITick, 0)}, api.MaxBytes), ret...) }),
		fn(func(f *api.Func) { f.Locals, f.Code = 101, []api.Instr{{}} }),
	} {
		if a, b, err := bytecode.Check(c); a != 0 || b != 0 || err != api.ErrArg {
			t.Error(i, a, b, err)
		}
		if l, err := bytecode.Heights(c, 0); len(l) != 0 || err != api.ErrArg {
			t.Error(i, l, err)
		}
		if s, err := bytecode.Text(c); s != "" || err != api.ErrArg {
			t.Error(i, s, err)
		}
	}
}

func TestOperands(t *testing.T) {
	ends := map[int][2]int{
		api.IConst: {-api.MaxInt, api.MaxInt}, api.ILocal: {0, 2}, api.ISetLocal: {0, 2}, api.IGlobal: {0, 2}, api.ISetGlobal: {0, 2}, api.IField: {0, api.MaxFields - 1}, api.ISetField: {0, api.MaxFields - 1}, api.INew: {0, 1}, api.ICall: {0, 2}, api.IJump: {0, 3}, api.IJumpFalse: {0, 3},
	}
	try := func(x api.Instr, ok bool) {
		t.Helper()
		c := code(false, in(api.ITick, 0), in(api.IReturn, 0), in(api.IReturn, 0), x)
		text, err := bytecode.Text(c)
		if ok != (err == api.OK) || !ok && (err != api.ErrArg || text != "") {
			t.Error(x, err)
		}
		if !ok {
			wantCheck(t, c, 0, 3, api.ErrForm)
			if l, err := bytecode.Heights(c, 1); len(l) != 0 || err != api.ErrForm {
				t.Error(x, l, err)
			}
			if l, err := bytecode.Heights(c, 9); len(l) != 0 || err != api.ErrForm {
				t.Error(x, l, err)
			}
			// A wrong instruction comes before heights that are wrong, also in an earlier function.
			c.Funcs[0], c.Funcs[1] = api.Func{Name: "p", Params: 1, Locals: 3, Code: []api.Instr{in(api.IPop, 0)}}, c.Funcs[0]
			c.Funcs[1].Name = "q"
			wantCheck(t, c, 1, 3, api.ErrForm)
		}
	}
	for op := api.IConst; op <= api.IDup; op++ {
		if withOperand(op) != (ends[op] != [2]int{}) {
			if op != api.IReturn {
				t.Fatal(op)
			}
		}
		end := ends[op]
		try(in(op, end[0]), true)
		try(in(op, end[1]), true)
		try(in(op, end[0]-1), false)
		try(in(op, end[1]+1), false)
		try(in(op, -1<<63), false)
	}
	for _, op := range []int{0, -1, api.IDup + 1, 1 << 40} {
		try(in(op, 0), false)
	}
	none := api.Code{Funcs: []api.Func{{Name: "p", Code: []api.Instr{in(api.IReturn, 0), in(api.ILocal, 0)}}}}
	wantCheck(t, none, 0, 1, api.ErrForm)
	for _, op := range []int{api.IGlobal, api.ISetGlobal, api.INew, api.ISetLocal} {
		none.Funcs[0].Code[1].Op = op
		wantCheck(t, none, 0, 1, api.ErrForm)
	}
}

// P14.2 and P14.3: heights

func wantHeights(t *testing.T, c api.Code, want ...int) {
	t.Helper()
	l, err := bytecode.Heights(c, 0)
	if err != api.OK || !slices.Equal(l, want) {
		t.Errorf("Heights(%v) = %v %v, want %v", c.Funcs[0], l, err, want)
	}
	wantCheck(t, c, 0, 0, api.OK)
}

func wantNoHeights(t *testing.T, c api.Code, at int, want api.Errno) {
	t.Helper()
	if l, err := bytecode.Heights(c, 0); err != want || len(l) != 0 {
		t.Errorf("Heights(%v) = %v %v, want %v", c.Funcs[0], l, err, want)
	}
	wantCheck(t, c, 0, at, want)
}

func TestHeights(t *testing.T) {
	wantHeights(t, code(true, in(api.IConst, 1), in(api.IJumpFalse, 4), in(api.IConst, 2), in(api.IJump, 5), in(api.IConst, 3), in(api.IReturn, 0)), 0, 1, 0, 1, 0, 1)
	wantNoHeights(t, code(true, in(api.IConst, 1), in(api.IJumpFalse, 3), in(api.IConst, 2), in(api.IConst, 3), in(api.IReturn, 0)), 2, api.ErrState)
	wantHeights(t, code(false, in(api.IReturn, 0)), 0)
	wantHeights(t, code(false, in(api.IReturn, 0), in(api.IPop, 0)), 0, -1)
	wantHeights(t, code(false, in(api.IJump, 0)), 0)
	wantHeights(t, code(false, in(api.IJump, 2), in(api.IReturn, 0), in(api.IJump, 1)), 0, 0, 0)
	wantNoHeights(t, code(false, in(api.ITick, 0)), 0, api.ErrEnd)
	wantNoHeights(t, code(false, in(api.IConst, 0), in(api.IJumpFalse, 0)), 1, api.ErrEnd)
	wantNoHeights(t, code(false, in(api.IConst, 0), in(api.IConst, 0), in(api.IJumpFalse, 0)), 2, api.ErrEnd)
	wantNoHeights(t, code(false, in(api.IConst, 0), in(api.IJump, 0)), 1, api.ErrState)
	wantNoHeights(t, code(true, in(api.IReturn, 0)), 0, api.ErrEmpty)
	wantNoHeights(t, code(true, in(api.IConst, 0), in(api.IConst, 0), in(api.IReturn, 0)), 2, api.ErrSize)
	wantNoHeights(t, code(false, in(api.IConst, 0), in(api.IReturn, 0)), 1, api.ErrSize)
	wantHeights(t, code(true, in(api.IConst, 0), in(api.IDup, 0), in(api.ICall, 1), in(api.IReturn, 0)), 0, 1, 2, 1)
	wantHeights(t, code(false, in(api.ICall, 2), in(api.IReturn, 0)), 0, 0)
	wantNoHeights(t, code(true, in(api.IConst, 0), in(api.ICall, 1), in(api.IReturn, 0)), 1, api.ErrEmpty)
	// The own function has a parameter, and in one case a result.
	wantHeights(t, code(true, in(api.IConst, 0), in(api.ICall, 0), in(api.IReturn, 0)), 0, 1, 1)
	wantHeights(t, code(false, in(api.IConst, 0), in(api.ICall, 0), in(api.IReturn, 0)), 0, 1, 0)
	// Both successors of a jump may be the same instruction.
	wantHeights(t, code(false, in(api.IConst, 0), in(api.IJumpFalse, 2), in(api.IReturn, 0)), 0, 1, 0)
	// The least instruction that has a height comes next, also if it was found later: here the jump back leads to 1.
	wantNoHeights(t, code(false, in(api.IJump, 3), in(api.IPop, 0), in(api.IReturn, 0), in(api.IConst, 0), in(api.IJumpFalse, 1), in(api.IPop, 0)), 1, api.ErrEmpty)
	for op := api.IConst; op <= api.IDup; op++ {
		c := code(false, in(api.IConst, 1), in(api.IConst, 1), in(api.IConst, 1), in(op, 0), in(api.IJump, 4))
		if op == api.IReturn || op == api.IJump || op == api.IJumpFalse {
			continue
		}
		pops, pushes := effect(c, c.Funcs[0], in(op, 0))
		wantHeights(t, c, 0, 1, 2, 3, 3-pops+pushes)
		if pops > 0 {
			c.Funcs[0].Code = slices.Concat(slices.Repeat([]api.Instr{in(api.IConst, 1)}, pops-1), []api.Instr{in(op, 0), in(api.IReturn, 0)})
			wantNoHeights(t, c, pops-1, api.ErrEmpty)
		}
	}
}

func TestHeightsOfOthers(t *testing.T) {
	c := code(true, in(api.IReturn, 0))
	if l, err := bytecode.Heights(c, 1); err != api.OK || !slices.Equal(l, []int{0, 1}) {
		t.Error(l, err)
	}
	if l, err := bytecode.Heights(c, 2); err != api.OK || !slices.Equal(l, []int{0}) {
		t.Error(l, err)
	}
	for _, f := range []int{-1, 3, 1 << 60} {
		if l, err := bytecode.Heights(c, f); err != api.ErrRange || len(l) != 0 {
			t.Error(f, l, err)
		}
	}
	c.Funcs[0], c.Funcs[2] = c.Funcs[2], c.Funcs[0]
	wantCheck(t, c, 2, 0, api.ErrEmpty)
}

func TestManyHeights(t *testing.T) {
	n := numbers(19)
	counts := map[api.Errno]int{}
	for range 30000 {
		var l []api.Instr
		length := 1 + n.below(9)
		for range length {
			l = append(l, n.instr(length))
		}
		c := code(n.below(2) == 0, l...)
		want, at, err := oracle(c, c.Funcs[0])
		counts[err]++
		if err == api.OK {
			wantHeights(t, c, want...)
		} else {
			wantNoHeights(t, c, at, err)
		}
		if t.Failed() {
			return
		}
	}
	for _, err := range []api.Errno{api.OK, api.ErrEmpty, api.ErrSize, api.ErrEnd, api.ErrState} {
		if counts[err] < 100 {
			t.Error(err, counts[err])
		}
	}
}

// Very many jumps back must not take too long.
func TestLongCode(t *testing.T) {
	var l []api.Instr
	n := 60000
	for i := range n {
		l = append(l, in(api.IConst, 1), in(api.IJumpFalse, 2*(n-1-i)))
	}
	c := code(false, append(l, in(api.IReturn, 0))...)
	wantCheck(t, c, 0, 0, api.OK)
	l = nil
	for i := range n {
		l = append(l, in(api.IJump, n-i-i%2*0))
	}
	c = code(false, append(l, in(api.IReturn, 0))...)
	wantCheck(t, c, 0, 0, api.OK)
}

// P14.4

const example = "fields 3 0\nglobals 2\nfunc p 1 3 yes\nconst -1099511627776\nlocal 0\nsetlocal 2\nglobal 1\nsetglobal 0\nfield 11\nsetfield 0\nnew 1\ncall 1\nreturn\njump 0\njumpfalse 30\ntick\nneg\nadd\nsub\nmul\ndiv\nmod\nequal\nnotequal\nless\nlessequal\nsame\nnotsame\nnot\nmax\nmin\nlog\npop\ndup\nfunc q_2 0 0 no\nreturn\n"

func TestText(t *testing.T) {
	c := read(t, example)
	if s, err := bytecode.Text(c); s != example || err != api.OK {
		t.Error(s, err)
	}
	if len(c.Fields) != 2 || c.Fields[0] != 3 || c.Globals != 2 || len(c.Funcs) != 2 || !c.Funcs[0].Result || c.Funcs[1].Result || c.Funcs[0].Params != 1 || c.Funcs[0].Locals != 3 || c.Funcs[1].Name != "q_2" {
		t.Error(c)
	}
	for i, x := range c.Funcs[0].Code {
		if x.Op != api.IConst+i {
			t.Error(i, x)
		}
	}
	if s, err := bytecode.Text(api.Code{}); s != "fields\nglobals 0\n" || err != api.OK {
		t.Error(s, err)
	}
	if c, err := bytecode.Parse("fields\nglobals 0\n"); !isZero(c) || err != api.OK {
		t.Error(c, err)
	}
	// Codes that are not sound have texts, too.
	if s, err := bytecode.Text(code(true, in(api.IPop, 0))); !strings.Contains(s, "\npop\n") || err != api.OK {
		t.Error(s, err)
	}
}

func TestParseErrors(t *testing.T) {
	for _, c := range [][2]string{
		{"fields 3 0", "fields 3  0"}, {"fields 3 0", "fields 3 0 "}, {"fields 3 0", "fields 13 0"}, {"fields 3 0", "fields 03 0"}, {"fields 3 0", "fields 3 -1"}, {"fields 3 0", "fields 3 x"}, {"fields 3 0", " fields 3 0"}, {"fields 3 0", "Fields 3 0"}, {"fields 3 0", "fields 3 0\n"}, {"fields 3 0\n", ""}, {"fields 3 0", "fields 3\t0"},
		{"globals 2", "globals"}, {"globals 2", "globals 9"}, {"globals 2", "globals 2 2"}, {"globals 2\n", ""}, {"globals 2", "globals +2"}, {"globals 2", "globals 2\nglobals 2"}, {"globals 2\n", "globals 2\nfields 3 0\n"},
		{"func p 1 3 yes", "func p 1 3"}, {"func p 1 3 yes", "func p 1 3 maybe"}, {"func p 1 3 yes", "func p 1 3 yes no"}, {"func p 1 3 yes", "func if 1 3 yes"}, {"func p 1 3 yes", "func p 4 3 yes"}, {"func p 1 3 yes", "func q_2 1 3 yes"}, {"func p 1 3 yes\n", ""}, {"func p 1 3 yes", "func p 1 03 yes"}, {"func p 1 3 yes", "func  p 1 3 yes"}, {"func p 1 3 yes", "func p 1 3 Yes"},
		{"\ntick", "\ntick 0"}, {"\ntick", "\ntick 5"}, {"\ntick", "\ntick "}, {"\ntick", "\n tick"}, {"\ntick", "\ntock"}, {"\ntick", "\n"}, {"\ntick", "\n\ntick"}, {"\ntick", "\nTICK"}, {"\ntick", "\ntick # c"}, {"\nlocal 0", "\nlocal"}, {"\nlocal 0", "\nlocal 3"}, {"\nlocal 0", "\nlocal 0 0"}, {"\nlocal 0", "\nlocal -0"}, {"\nlocal 0", "\nlocal 00"}, {"\nlocal 0", "\nlocal 99999999999999999999"},
		{"const -1099511627776", "const -1099511627777"}, {"const -1099511627776", "const"}, {"jumpfalse 30", "jumpfalse 31"}, {"call 1", "call 2"}, {"\nreturn\njump", "\nreturn 0\njump"}, {"func q_2 0 0 no\nreturn\n", "func q_2 0 0 no\n"}, {"func q_2 0 0 no\nreturn\n", "func q_2 0 0 no\nreturn"}, {"func q_2 0 0 no\nreturn\n", "func q_2 0 0 no\nreturn\n\n"}, {"new 1", "new 2"}, {"field 11", "field 12"}, {"\ndup\n", "\ndup\r\n"},
	} {
		s := strings.Replace(example, c[0], c[1], 1)
		if s == example {
			t.Fatal(c)
		}
		if r, err := bytecode.Parse(s); err != api.ErrForm || !isZero(r) {
			t.Error(c, r, err)
		}
	}
	for _, s := range []string{"", "\n", "fields", "fields\n", "fields\nglobals 0", "globals 0\nfields\n", "fields\nglobals 0\ntick\n", "fields\nglobals 0\nfunc p 0 0 no\n"} {
		if r, err := bytecode.Parse(s); err != api.ErrForm || !isZero(r) {
			t.Error(s, r, err)
		}
	}
}

func TestTextLimits(t *testing.T) {
	head := "fields\nglobals 0\nfunc p 0 0 no\n"
	// Ticks have 5 bytes, a const with a number of so many digits 7 and more.
	n := (api.MaxBytes - len(head)) / 5
	rest := (api.MaxBytes - len(head)) % 5
	s := head + strings.Repeat("tick\n", n-2) + "const 1" + strings.Repeat("0", rest+2) + "\n"
	if len(s) != api.MaxBytes {
		t.Fatal(len(s))
	}
	c, err := bytecode.Parse(s)
	if err != api.OK {
		t.Fatal(err)
	}
	if r, err := bytecode.Text(c); r != s || err != api.OK {
		t.Error(len(r), err)
	}
	last := &c.Funcs[0].Code[len(c.Funcs[0].Code)-1]
	last.A *= 10
	if r, err := bytecode.Text(c); r != "" || err != api.ErrFull {
		t.Error(len(r), err)
	}
	last.Op = 99
	if r, err := bytecode.Text(c); r != "" || err != api.ErrArg {
		t.Error(len(r), err)
	}
	for _, s := range []string{s + "\n", strings.Repeat("x", api.MaxBytes+1)} {
		if r, err := bytecode.Parse(s); !isZero(r) || err != api.ErrFull {
			t.Error(err)
		}
	}
	if r, err := bytecode.Parse(strings.Repeat("x", api.MaxBytes)); !isZero(r) || err != api.ErrForm {
		t.Error(err)
	}
}

// P14.5: codes are read from their texts.
func TestTextsAreRead(t *testing.T) {
	n := numbers(31)
	for range 500 {
		var l []api.Instr
		length := 1 + n.below(20)
		for range length {
			l = append(l, n.instr(length))
		}
		c := code(n.below(2) == 0, l...)
		s, err := bytecode.Text(c)
		if err != api.OK {
			t.Fatal(err)
		}
		if r, err := bytecode.Parse(s); err != api.OK || !same(r, c) {
			t.Fatal(s, r, err)
		}
	}
}
