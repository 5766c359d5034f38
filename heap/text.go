package heap

import (
	"strconv"
	"strings"

	"heartwood/api"
)

// Text returns the text of a memory.
func Text(d api.Desc, m api.Mem) (string, api.Errno) {
	l, ok := layoutFor(d, m)
	if !ok {
		return "", api.ErrArg
	}
	var b strings.Builder
	for i, v := range d.Globals {
		b.WriteString(v.Name + " = " + written(l.globals[i])(m.Globals[i]) + "\n")
	}
	for i, n := range m.Nodes {
		b.WriteString(reference(i+1) + " " + d.Types[n.Type].Name + " {")
		for k, f := range d.Types[n.Type].Fields {
			b.WriteString(" " + f.Name + " = " + written(l.types[n.Type][k])(n.F[k]) + ";")
		}
		b.WriteString(" }\n")
		if b.Len() > api.MaxText {
			return "", api.ErrFull
		}
	}
	return b.String(), api.OK
}

// written returns the function that writes values of a kind.
func written(k kind) func(int) string {
	switch k {
	case integer:
		return strconv.Itoa
	case boolean:
		return func(n int) string { return strconv.FormatBool(n == 1) }
	}
	return reference
}

func reference(n int) string {
	if n == 0 {
		return "nil"
	}
	return "#" + strconv.Itoa(n)
}
