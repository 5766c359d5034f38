package kinetic

import (
	"cmp"
	"container/heap"
	"slices"

	"heartwood/api"
)

// List keeps points that move in the order of their positions.
type List struct {
	motions []api.Motion
	now     api.Frac
	order   []int
	places  []int // where each point stands in the order
	queue   queue
}

// queue has the certificates of neighbours, and outdated ones: those of points that are no neighbours any more.
type queue []api.Swap

func (q queue) Len() int           { return len(q) }
func (q queue) Less(i, j int) bool { return compareTimes(q[i].T, q[j].T) < 0 }
func (q queue) Swap(i, j int)      { q[i], q[j] = q[j], q[i] }

// Push adds a certificate at the end.
func (q *queue) Push(x any) {
	if s, ok := x.(api.Swap); ok {
		*q = append(*q, s)
	}
}

// Pop takes out the last certificate.
func (q *queue) Pop() any {
	last := len(*q) - 1
	s := (*q)[last]
	*q = (*q)[:last]
	return s
}

// NewList returns the list with some motions.
func NewList(l []api.Motion) (*List, api.Errno) {
	if !areMotions(l) {
		return nil, api.ErrArg
	}
	if len(l) > api.MaxArgs {
		return nil, api.ErrFull
	}
	k := &List{motions: slices.Clone(l), now: api.Frac{Num: 0, Den: 1}}
	k.sort()
	return k, api.OK
}

// sort finds the order, and the certificates, anew.
func (k *List) sort() {
	k.order = order(k.motions, k.now)
	k.places = make([]int, len(k.order))
	for place, i := range k.order {
		k.places[i] = place
	}
	k.queue = k.Certificates()
	heap.Init(&k.queue)
}

// Now returns the time now.
func (k *List) Now() api.Frac {
	if k == nil {
		return api.Frac{}
	}
	return k.now
}

// Order returns the indices of the points in their order now.
func (k *List) Order() []int {
	if k == nil {
		return nil
	}
	return slices.Clone(k.order)
}

// Motions returns the motions.
func (k *List) Motions() []api.Motion {
	if k == nil {
		return nil
	}
	return slices.Clone(k.motions)
}

// certificate returns the certificate of the points at a place and the next one, if there are two, and they meet: the
// first one is not before the second one now, so they do if it is faster.
func (k *List) certificate(place int) (api.Swap, bool) {
	if place < 0 || place+1 >= len(k.order) {
		return api.Swap{}, false
	}
	a, b := k.order[place], k.order[place+1]
	if k.motions[a].Speed <= k.motions[b].Speed {
		return api.Swap{}, false
	}
	return api.Swap{T: meeting(k.motions[a], k.motions[b]), A: a, B: b}, true
}

// Certificates returns the certificates of all neighbours that have one, in the order of the list.
func (k *List) Certificates() []api.Swap {
	if k == nil {
		return nil
	}
	var l []api.Swap
	for place := range k.order {
		if s, ok := k.certificate(place); ok {
			l = append(l, s)
		}
	}
	return l
}

// Next returns the first certificate that fails.
func (k *List) Next() (api.Swap, api.Errno) {
	if k == nil {
		return api.Swap{}, api.ErrArg
	}
	l := k.Certificates()
	if len(l) == 0 {
		return api.Swap{}, api.ErrNone
	}
	return slices.MinFunc(l, func(a, b api.Swap) int { return compareTimes(a.T, b.T) }), api.OK
}

// Advance makes t the time now, and returns the swaps up to it.
func (k *List) Advance(t api.Frac) ([]api.Swap, api.Errno) {
	if k == nil || !isTime(t) {
		return nil, api.ErrArg
	}
	if compareTimes(t, k.now) < 0 {
		return nil, api.ErrTime
	}
	var swaps []api.Swap
	for len(k.queue) > 0 && compareTimes(k.queue[0].T, t) <= 0 {
		if s, ok := heap.Pop(&k.queue).(api.Swap); ok && k.places[s.A]+1 == k.places[s.B] {
			swaps = append(swaps, s)
			k.swap(k.places[s.A])
		}
	}
	k.now = t
	slices.SortFunc(swaps, func(a, b api.Swap) int {
		return cmp.Or(compareTimes(a.T, b.T), cmp.Compare(a.A, b.A), cmp.Compare(a.B, b.B))
	})
	return swaps, api.OK
}

// swap exchanges the points at a place and the next one, and adds the certificates with their new neighbours.
func (k *List) swap(place int) {
	a, b := k.order[place], k.order[place+1]
	k.order[place], k.order[place+1] = b, a
	k.places[a], k.places[b] = place+1, place
	for _, p := range []int{place - 1, place + 1} {
		if s, ok := k.certificate(p); ok {
			heap.Push(&k.queue, s)
		}
	}
}

// Change gives the point i another speed from now on.
func (k *List) Change(i int, speed int) api.Errno {
	if k == nil {
		return api.ErrArg
	}
	if i < 0 || i >= len(k.motions) || !isSpeed(speed) {
		return api.ErrRange
	}
	m := k.motions[i]
	// The position must not jump.
	jump := (m.Speed - speed) * k.now.Num
	if jump%k.now.Den != 0 {
		return api.ErrShape
	}
	next := api.Motion{At: m.At + jump/k.now.Den, Speed: speed}
	if !isMotion(next) {
		return api.ErrBig
	}
	k.motions[i] = next
	k.sort()
	return api.OK
}
