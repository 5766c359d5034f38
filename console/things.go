package console

import (
	"strconv"
	"strings"

	"heartwood/api"
	"heartwood/ast"
	"heartwood/heap"
	"heartwood/invariant"
	"heartwood/library"
	"heartwood/model"
	"heartwood/parser"
	"heartwood/persistent"
	"heartwood/runner"
	"heartwood/typecheck"
)

func (c *Console) describe(words []string) (string, api.Errno) {
	d, _, err := parser.Parse("desc " + strings.Join(words, " "))
	if err != api.OK {
		return "", err
	}
	if _, _, err := typecheck.Check(d); err != api.OK {
		return "", err
	}
	return c.add(d.Name, d)
}

func (c *Console) makeInstance(words []string) (string, api.Errno) {
	i, err := runner.New(words[1])
	if err != api.OK {
		return "", err
	}
	return c.add(words[0], i)
}

func (c *Console) makeStore(words []string) (string, api.Errno) {
	d, err := find[api.Desc](c, words[1])
	if err != api.OK {
		return "", err
	}
	s, err := persistent.New(d)
	if err != api.OK {
		return "", err
	}
	return c.add(words[0], store{d, s})
}

func (c *Console) drop(words []string) (string, api.Errno) {
	if _, found := c.things[words[0]]; !found {
		return "", api.ErrName
	}
	delete(c.things, words[0])
	return "", api.OK
}

func (c *Console) show(words []string) (string, api.Errno) {
	switch x := c.things[words[0]].(type) {
	case api.Desc:
		return ast.Text(x)
	case api.Instance:
		d, _ := library.Load(x.Name)
		return heap.Text(d, x.Mem)
	case store:
		return joined(x.versions.Versions().Parent), api.OK
	}
	return "", api.ErrName
}

func (c *Console) operate(words []string) (string, api.Errno) {
	i, err := find[api.Instance](c, words[0])
	if err != api.OK {
		return "", err
	}
	kind, _ := library.Kind(i.Name)
	o, err := model.Parse(kind, strings.Join(words[1:], " "))
	if err != api.OK {
		return "", err
	}
	next, r, cost, err := runner.Do(i, o)
	if err != api.OK {
		return "", err
	}
	c.things[words[0]] = next
	text := strconv.Itoa(r.N)
	if r.Err != api.OK {
		text = "error " + strconv.Itoa(int(r.Err))
	}
	return text + " " + strconv.Itoa(cost.Nodes), api.OK
}

func (c *Console) state(words []string) (string, api.Errno) {
	i, err := find[api.Instance](c, words[0])
	if err != api.OK {
		return "", err
	}
	s, err := runner.State(i)
	if err != api.OK {
		return "", err
	}
	var rows []string
	for _, row := range s.Rows {
		rows = append(rows, joined(row))
	}
	return strings.Join(rows, "; "), api.OK
}

// requested returns the call that the words after a store and a version say.
func requested(words []string) api.Call {
	x := api.Call{Proc: words[2]}
	for _, word := range words[3:] {
		x.Args = append(x.Args, number(word))
	}
	return x
}

// told returns the text of the outcome of a call: what is said of one without a fault, or the fault.
func told(o api.Outcome, good ...int) string {
	if o.Fault != api.OK {
		return "fault " + strconv.Itoa(int(o.Fault))
	}
	return joined(append(good, o.Value))
}

func (c *Console) call(words []string) (string, api.Errno) {
	s, err := find[store](c, words[0])
	if err != api.OK {
		return "", err
	}
	version, o, err := s.versions.Call(number(words[1]), requested(words), fuel)
	if err != api.OK {
		return "", err
	}
	return told(o, version), api.OK
}

func (c *Console) peek(words []string) (string, api.Errno) {
	s, err := find[store](c, words[0])
	if err != api.OK {
		return "", err
	}
	o, err := s.versions.Peek(number(words[1]), requested(words), fuel)
	if err != api.OK {
		return "", err
	}
	return told(o), api.OK
}

// version returns the description of a store, and the snapshot of a version of it.
func (c *Console) version(words []string) (api.Desc, api.Mem, api.Errno) {
	s, err := find[store](c, words[0])
	if err != api.OK {
		return api.Desc{}, api.Mem{}, err
	}
	m, err := s.versions.Snapshot(number(words[1]))
	return s.d, m, err
}

func (c *Console) snapshot(words []string) (string, api.Errno) {
	d, m, err := c.version(words)
	if err != api.OK {
		return "", err
	}
	return heap.Text(d, m)
}

func (c *Console) check(words []string) (string, api.Errno) {
	d, m, err := c.version(words)
	if err != api.OK {
		return "", err
	}
	ok, v, err := invariant.Check(d, m)
	if ok || err != api.OK {
		return "ok", err
	}
	return v.Name + " " + strconv.Itoa(v.Node), api.OK
}

func (c *Console) measure(words []string) (string, api.Errno) {
	d, m, err := c.version(words)
	if err != api.OK {
		return "", err
	}
	n, err := invariant.Measure(d, m, words[2], number(words[3]))
	return strconv.Itoa(n), err
}
