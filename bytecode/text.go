package bytecode

import (
	"strconv"
	"strings"

	"heartwood/api"
)

// Text returns the text of a code.
func Text(c api.Code) (string, api.Errno) {
	if !rightHead(c) {
		return "", api.ErrArg
	}
	if _, _, ok := wellFormed(c); !ok {
		return "", api.ErrArg
	}
	var b strings.Builder
	b.WriteString("fields")
	for _, n := range c.Fields {
		b.WriteString(" " + strconv.Itoa(n))
	}
	b.WriteString("\nglobals " + strconv.Itoa(c.Globals) + "\n")
	for _, f := range c.Funcs {
		b.WriteString("func " + f.Name + " " + strconv.Itoa(f.Params) + " " + strconv.Itoa(f.Locals) + " " + yes(f.Result) + "\n")
		for _, x := range f.Code {
			b.WriteString(classes[x.Op].word)
			if classes[x.Op].operand {
				b.WriteString(" " + strconv.Itoa(x.A))
			}
			b.WriteString("\n")
			if b.Len() > api.MaxBytes {
				return "", api.ErrFull
			}
		}
	}
	return b.String(), api.OK
}

func yes(b bool) string {
	if b {
		return "yes"
	}
	return "no"
}

// Parse returns the code with a text.
func Parse(s string) (api.Code, api.Errno) {
	if len(s) > api.MaxBytes {
		return api.Code{}, api.ErrFull
	}
	c := read(strings.Split(s, "\n"))
	// What is not written in exactly this way has another text, or none.
	if text, err := Text(c); err != api.OK || text != s {
		return api.Code{}, api.ErrForm
	}
	return c, api.OK
}

// read returns the code of lines. Of lines that are no text of a code it returns any code with another text.
func read(lines []string) api.Code {
	ops := map[string]int{}
	for op, x := range classes {
		ops[x.word] = op
	}
	var c api.Code
	for _, line := range lines {
		words := strings.Split(line, " ")
		switch {
		case words[0] == "fields":
			c.Fields = numbers(words[1:])
		case words[0] == "globals" && len(words) == 2:
			c.Globals = number(words[1])
		case words[0] == "func" && len(words) == 5:
			c.Funcs = append(c.Funcs, api.Func{Name: words[1], Params: number(words[2]), Locals: number(words[3]), Result: words[4] == "yes"})
		case len(c.Funcs) > 0 && ops[words[0]] > 0:
			x := api.Instr{Op: ops[words[0]]}
			if len(words) == 2 {
				x.A = number(words[1])
			}
			f := &c.Funcs[len(c.Funcs)-1]
			f.Code = append(f.Code, x)
		}
	}
	return c
}

// number returns the value of a decimal number, and something that stands nowhere for others.
func number(s string) int {
	n, err := strconv.Atoi(s)
	if err != nil {
		return -1 << 62
	}
	return n
}

func numbers(l []string) []int {
	var r []int
	for _, s := range l {
		r = append(r, number(s))
	}
	return r
}
