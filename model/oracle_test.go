package model_test

import (
	"maps"
	"slices"
	"strings"

	"heartwood/api"
)

// oracle executes operations by other means than the model: with maps, strings, and loops over all that there is. It
// knows no limit on the number of entries.
type oracle interface {
	do(o api.Op) api.Res
	rows() [][]int
}

func oracleOf(kind int) oracle {
	switch kind {
	case api.Dict:
		return &dictOracle{map[int]int{}}
	case api.Heap:
		return &heapOracle{map[int]int{}}
	case api.Seq:
		return &seqOracle{}
	case api.Sets:
		return &setsOracle{}
	case api.Range:
		return &rangeOracle{map[[2]int]int{}}
	}
	return &textOracle{}
}

type dictOracle struct{ entries map[int]int }

func (d *dictOracle) keys() []int { return slices.Sorted(maps.Keys(d.entries)) }

func (d *dictOracle) rows() [][]int {
	var l [][]int
	for _, k := range d.keys() {
		l = append(l, []int{k, d.entries[k]})
	}
	return l
}

// extreme returns the last of some keys, or the first one.
func extreme(keys []int, last bool) api.Res {
	switch {
	case len(keys) == 0:
		return fails(api.ErrNone)
	case last:
		return is(keys[len(keys)-1])
	}
	return is(keys[0])
}

func (d *dictOracle) do(o api.Op) api.Res {
	switch o.Code {
	case api.DictPut:
		_, known := d.entries[o.Args[0]]
		d.entries[o.Args[0]] = o.Args[1]
		return truth(known)
	case api.DictGet, api.DictRemove:
		value, known := d.entries[o.Args[0]]
		if !known {
			return fails(api.ErrNone)
		}
		if o.Code == api.DictRemove {
			delete(d.entries, o.Args[0])
		}
		return is(value)
	case api.DictFloor:
		return extreme(slices.DeleteFunc(d.keys(), func(k int) bool { return k > o.Args[0] }), true)
	case api.DictCeiling:
		return extreme(slices.DeleteFunc(d.keys(), func(k int) bool { return k < o.Args[0] }), false)
	case api.DictRank:
		return is(len(slices.DeleteFunc(d.keys(), func(k int) bool { return k >= o.Args[0] })))
	case api.DictSelect:
		for i, k := range d.keys() {
			if i == o.Args[0] {
				return is(k)
			}
		}
		return fails(api.ErrRange)
	}
	return is(len(d.entries))
}

func truth(b bool) api.Res {
	if b {
		return is(1)
	}
	return is(0)
}

// heapOracle has how often each priority occurs.
type heapOracle struct{ times map[int]int }

func (h *heapOracle) rows() [][]int {
	var l [][]int
	for _, p := range slices.Sorted(maps.Keys(h.times)) {
		for range h.times[p] {
			l = append(l, []int{p})
		}
	}
	return l
}

func (h *heapOracle) do(o api.Op) api.Res {
	l := h.rows()
	switch {
	case o.Code == api.HeapInsert:
		h.times[o.Args[0]]++
		return is(0)
	case o.Code == api.HeapSize:
		return is(len(l))
	case len(l) == 0:
		return fails(api.ErrEmpty)
	case o.Code == api.HeapDeleteMin:
		h.times[l[0][0]]--
	}
	return is(l[0][0])
}

type seqOracle struct{ l []int }

func (s *seqOracle) rows() [][]int {
	var l [][]int
	for _, v := range s.l {
		l = append(l, []int{v})
	}
	return l
}

func (s *seqOracle) do(o api.Op) api.Res {
	switch o.Code {
	case api.SeqSize:
		return is(len(s.l))
	case api.SeqSum, api.SeqReverse:
		return s.part(o)
	case api.SeqInsert:
		if o.Args[0] < 0 || o.Args[0] > len(s.l) {
			return fails(api.ErrRange)
		}
		s.l = slices.Concat(s.l[:o.Args[0]], []int{o.Args[1]}, s.l[o.Args[0]:])
		return is(0)
	}
	i := o.Args[0]
	if i < 0 || i >= len(s.l) {
		return fails(api.ErrRange)
	}
	value := s.l[i]
	if o.Code == api.SeqRemove {
		s.l = slices.Concat(s.l[:i], s.l[i+1:])
	} else if o.Code == api.SeqSet {
		s.l = slices.Concat(s.l[:i], []int{o.Args[1]}, s.l[i+1:])
	}
	return is(value)
}

func (s *seqOracle) part(o api.Op) api.Res {
	a, b := o.Args[0], o.Args[1]
	if !(0 <= a && a <= b && b <= len(s.l)) {
		return fails(api.ErrRange)
	}
	sum := 0
	turned := slices.Clone(s.l)
	for i := a; i < b; i++ {
		sum += s.l[i]
		turned[i] = s.l[a+b-1-i]
	}
	if o.Code == api.SeqSum {
		return is(sum)
	}
	s.l = turned
	return is(0)
}

// setsOracle has a number for each element, which is the same in a class.
type setsOracle struct{ class []int }

func (s *setsOracle) rows() [][]int {
	var l [][]int
	for a, c := range s.class {
		if slices.Index(s.class, c) == a {
			l = append(l, s.members(c))
		}
	}
	return l
}

func (s *setsOracle) members(c int) []int {
	var l []int
	for a := range s.class {
		if s.class[a] == c {
			l = append(l, a)
		}
	}
	return l
}

func (s *setsOracle) do(o api.Op) api.Res {
	switch o.Code {
	case api.SetsMake:
		s.class = append(s.class, len(s.class))
		return is(len(s.class) - 1)
	case api.SetsCount:
		return is(len(s.rows()))
	}
	for _, a := range o.Args {
		if a < 0 || a >= len(s.class) {
			return fails(api.ErrNone)
		}
	}
	first, last := s.class[o.Args[0]], s.class[o.Args[len(o.Args)-1]]
	switch o.Code {
	case api.SetsSize:
		return is(len(s.members(first)))
	case api.SetsSame:
		return truth(first == last)
	}
	for _, a := range s.members(first) {
		s.class[a] = last
	}
	return truth(first != last)
}

type rangeOracle struct{ points map[[2]int]int }

func (r *rangeOracle) rows() [][]int {
	var l [][]int
	for place, w := range r.points {
		l = append(l, []int{place[0], place[1], w})
	}
	slices.SortFunc(l, slices.Compare[[]int])
	return l
}

func (r *rangeOracle) do(o api.Op) api.Res {
	if o.Code == api.RangeSize {
		return is(len(r.points))
	}
	place := [2]int{o.Args[0], o.Args[1]}
	w, known := r.points[place]
	switch {
	case o.Code == api.RangeAdd && known:
		return fails(api.ErrExists)
	case o.Code == api.RangeAdd:
		r.points[place] = o.Args[2]
		return is(0)
	case o.Code == api.RangeRemove && !known:
		return fails(api.ErrNone)
	case o.Code == api.RangeRemove:
		delete(r.points, place)
		return is(w)
	}
	n, sum := 0, 0
	for p, w := range r.points {
		if !(p[0] < o.Args[0] || p[0] > o.Args[1] || p[1] < o.Args[2] || p[1] > o.Args[3]) {
			n++
			sum += w
		}
	}
	if o.Code == api.RangeCount {
		return is(n)
	}
	return is(sum)
}

type textOracle struct{ text string }

func (x *textOracle) rows() [][]int {
	if x.text == "" {
		return nil
	}
	return [][]int{chars(x.text)}
}

// chars returns the characters of a string.
func chars(s string) []int {
	var l []int
	for i := range len(s) {
		l = append(l, int(s[i]))
	}
	return l
}

func (x *textOracle) do(o api.Op) api.Res {
	var b strings.Builder
	for _, c := range o.Args {
		b.WriteByte(byte(c))
	}
	s := b.String()
	switch o.Code {
	case api.TextAppend:
		x.text += s
		return is(0)
	case api.TextSize:
		return is(len(x.text))
	case api.TextFind:
		if !strings.Contains(x.text, s) {
			return fails(api.ErrNone)
		}
		return is(strings.Index(x.text, s))
	}
	n := 0
	for i := range len(x.text) {
		if strings.HasPrefix(x.text[i:], s) {
			n++
		}
	}
	return is(n)
}
