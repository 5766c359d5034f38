package equivalence

import (
	"slices"

	"heartwood/api"
	"heartwood/btree"
	"heartwood/connectivity"
	"heartwood/fingertree"
	"heartwood/model"
	"heartwood/rangetree"
	"heartwood/softheap"
	"heartwood/suffixindex"
)

const (
	exactRate = 20  // with which no key of a short script is corrupted
	maxText   = 500 // characters of a text
)

// modelOf returns what does operations by the model.
func modelOf(kind int) func(api.Op) api.Res {
	state, _ := model.New(kind)
	return func(o api.Op) api.Res {
		next, r, _ := model.Apply(state, o)
		state = next
		return r
	}
}

// nativeOf returns what does operations by the native variant of a kind.
func nativeOf(kind, n int) func(api.Op) api.Res {
	switch kind {
	case api.Dict:
		t, _ := btree.New(n)
		return func(o api.Op) api.Res {
			r, _ := t.Do(o)
			return r
		}
	case api.Heap:
		h, _ := softheap.New(exactRate)
		return queue{h}.do
	case api.Seq:
		t, _ := fingertree.Make(nil)
		return (&sequence{t}).do
	case api.Sets:
		f, _ := connectivity.NewForest(api.MaxList)
		return (&partition{forest: f}).do
	case api.Range:
		t, _ := rangetree.Make(nil)
		return points{t}.do
	}
	return (&text{}).do
}

func result(n int, err api.Errno) api.Res { return api.Res{Err: err, N: n} }

func truth(yes bool) int {
	if yes {
		return 1
	}
	return 0
}

// queue is a priority queue.
type queue struct{ heap *softheap.Heap }

func (q queue) do(o api.Op) api.Res {
	switch o.Code {
	case api.HeapInsert:
		_, err := q.heap.Insert(o.Args[0])
		return result(0, err)
	case api.HeapMin:
		var keys []int
		for _, id := range q.heap.Items() {
			key, _ := q.heap.Current(id)
			keys = append(keys, key)
		}
		if len(keys) == 0 {
			return result(0, api.ErrEmpty)
		}
		return result(slices.Min(keys), api.OK)
	case api.HeapDeleteMin:
		_, key, err := q.heap.DeleteMin()
		return result(key, err)
	}
	return result(q.heap.Len(), api.OK)
}

// sequence is a sequence.
type sequence struct{ tree *fingertree.Tree }

func (s *sequence) do(o api.Op) api.Res {
	switch o.Code {
	case api.SeqInsert:
		return s.insert(o.Args[0], o.Args[1])
	case api.SeqRemove:
		return s.remove(o.Args[0])
	case api.SeqGet:
		return result(s.tree.At(o.Args[0]))
	case api.SeqSet:
		old, err := s.tree.At(o.Args[0])
		if err == api.OK {
			s.tree, err = s.tree.Set(o.Args[0], o.Args[1])
		}
		return result(old, err)
	case api.SeqSum:
		return result(s.tree.Sum(o.Args[0], o.Args[1]))
	case api.SeqReverse:
		return s.reverse(o.Args[0], o.Args[1])
	}
	return result(s.tree.Len(), api.OK)
}

// join makes the sequence of parts.
func (s *sequence) join(parts ...*fingertree.Tree) {
	s.tree = parts[0]
	for _, part := range parts[1:] {
		s.tree, _ = s.tree.Concat(part)
	}
}

func (s *sequence) insert(i, value int) api.Res {
	before, after, err := s.tree.Split(i)
	if err != api.OK {
		return result(0, err)
	}
	before, _ = before.PushBack(value)
	s.join(before, after)
	return result(0, api.OK)
}

func (s *sequence) remove(i int) api.Res {
	value, err := s.tree.At(i)
	if err != api.OK {
		return result(0, err)
	}
	before, after, _ := s.tree.Split(i)
	_, after, _ = after.PopFront()
	s.join(before, after)
	return result(value, api.OK)
}

func (s *sequence) reverse(from, to int) api.Res {
	first, after, err := s.tree.Split(to)
	if err != api.OK {
		return result(0, err)
	}
	before, part, err := first.Split(from)
	if err != api.OK {
		return result(0, err)
	}
	l := part.List()
	slices.Reverse(l)
	part, _ = fingertree.Make(l)
	s.join(before, part, after)
	return result(0, api.OK)
}

// partition is a partition: of the vertices of a forest those that were made are elements.
type partition struct {
	forest *connectivity.Forest
	made   int
}

func (p *partition) do(o api.Op) api.Res {
	if slices.ContainsFunc(o.Args, func(a int) bool { return a < 0 || a >= p.made }) {
		return result(0, api.ErrNone)
	}
	switch o.Code {
	case api.SetsMake:
		p.made++
		return result(p.made-1, api.OK)
	case api.SetsUnion:
		were, err := p.forest.Union(o.Args[0], o.Args[1])
		return result(truth(were), err)
	case api.SetsSame:
		return result(truth(p.name(o.Args[0]) == p.name(o.Args[1])), api.OK)
	case api.SetsSize:
		n := 0
		for a := range p.made {
			n += truth(p.name(a) == p.name(o.Args[0]))
		}
		return result(n, api.OK)
	}
	return result(p.forest.Count()-(api.MaxList-p.made), api.OK)
}

func (p *partition) name(a int) int {
	name, _ := p.forest.Find(a)
	return name
}

// points is a set of points.
type points struct{ tree *rangetree.Tree }

func (p points) do(o api.Op) api.Res {
	a := o.Args
	switch o.Code {
	case api.RangeAdd:
		return result(0, p.tree.Add(api.Point{X: a[0], Y: a[1], W: a[2]}))
	case api.RangeRemove:
		weight, _ := p.tree.Sum(a[0], a[0], a[1], a[1])
		return result(weight, p.tree.Remove(a[0], a[1]))
	case api.RangeCount:
		return result(p.tree.Count(a[0], a[1], a[2], a[3]))
	case api.RangeSum:
		return result(p.tree.Sum(a[0], a[1], a[2], a[3]))
	}
	return result(p.tree.Len(), api.OK)
}

// text is a text, with its index.
type text struct {
	text  []byte
	index *suffixindex.Index
}

func (t *text) do(o api.Op) api.Res {
	var b []byte
	for _, c := range o.Args {
		b = append(b, byte(c))
	}
	if t.index == nil {
		t.index, _ = suffixindex.Make(string(t.text))
	}
	switch o.Code {
	case api.TextAppend:
		if len(t.text)+len(b) > maxText {
			return result(0, api.ErrFull)
		}
		t.text, t.index = append(t.text, b...), nil
		return result(0, api.OK)
	case api.TextCount:
		return result(t.index.Count(string(b)))
	case api.TextFind:
		l, _ := t.index.Locate(string(b))
		if len(l) == 0 {
			return result(0, api.ErrNone)
		}
		return result(l[0], api.OK)
	}
	return result(len(t.text), api.OK)
}
