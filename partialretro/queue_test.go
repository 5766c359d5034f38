package partialretro_test

import (
	"cmp"
	"maps"
	"slices"
	"testing"

	"heartwood/api"
	"heartwood/partialretro"
)

// numbers yields numbers by a fixed rule.
type numbers int

func (n *numbers) below(limit int) int {
	*n = *n * 48271 % 2147483647
	return int(*n) % limit
}

// element is an element of a queue; at is when it was inserted.
type element struct{ key, at int }

func byKey(a, b element) int { return cmp.Or(cmp.Compare(a.key, b.key), cmp.Compare(a.at, b.at)) }

// past has the operations of a queue: keys by times, or deletion.
type past map[int]int

const deletion = 1 << 40

func (p past) times() []int { return slices.Sorted(maps.Keys(p)) }

// run executes the operations; it returns the elements after each of them, and whether none met an empty queue.
func (p past) run() ([][]element, bool) {
	var now []element
	var all [][]element
	for _, time := range p.times() {
		if p[time] == deletion {
			if len(now) == 0 {
				return nil, false
			}
			now = slices.Clone(now[1:])
		} else {
			now = append(slices.Clone(now), element{p[time], time})
			slices.SortFunc(now, byKey)
		}
		all = append(all, now)
	}
	return all, true
}

func (p past) now() []element {
	all, _ := p.run()
	if len(all) == 0 {
		return nil
	}
	return all[len(all)-1]
}

func keys(l []element) []int {
	var all []int
	for _, e := range l {
		all = append(all, e.key)
	}
	return all
}

// isIn reports whether all elements of one list are in another one.
func isIn(some, l []element) bool {
	return !slices.ContainsFunc(some, func(e element) bool { return !slices.Contains(l, e) })
}

// bridges finds the bridges by their definition.
func (p past) bridges() []int {
	all, _ := p.run()
	var l []int
	for i, time := range p.times() {
		if isIn(all[i], p.now()) {
			l = append(l, time)
		}
	}
	return l
}

func checkQueue(t *testing.T, q *partialretro.Queue, p past) {
	t.Helper()
	want := keys(p.now())
	if !slices.Equal(q.Times(), p.times()) || !slices.Equal(q.Keys(), want) || !slices.Equal(q.Bridges(), p.bridges()) {
		t.Fatal(p, q.Times(), q.Keys(), want, q.Bridges(), p.bridges())
	}
	least, err := q.Min()
	if len(want) == 0 && (least != 0 || err != api.ErrEmpty) || len(want) > 0 && (least != want[0] || err != api.OK) {
		t.Fatal(p, least, err)
	}
}

// change makes a change of the past, and of the queue, and reports whether it was done.
func change(t *testing.T, q *partialretro.Queue, p past, time, what int) bool {
	t.Helper()
	next := maps.Clone(p)
	_, exists := p[time]
	var err, want api.Errno
	switch {
	case what < -deletion:
		err = q.Revoke(time)
		delete(next, time)
		if !exists {
			want = api.ErrNone
		}
	case what == deletion:
		err = q.DeleteMin(time)
	default:
		err = q.Insert(time, what)
	}
	if what >= -deletion {
		next[time] = what
		if exists {
			want = api.ErrExists
		}
	}
	if _, ok := next.run(); want == api.OK && !ok {
		want = api.ErrEmpty
	}
	if err != want {
		t.Fatal(p, time, what, err, want)
	}
	if err == api.OK {
		clear(p)
		maps.Copy(p, next)
	}
	return err == api.OK
}

const revoke = -deletion - 1

// P35.1, P35.2, and P35.6: random changes, with few and many keys and times, against runs of all operations.
func TestQueues(t *testing.T) {
	for _, spread := range []int{1, 2, 5, 1000} {
		for _, times := range []int{8, 25, 60} {
			n := numbers(spread + times)
			q, p := partialretro.NewQueue(), past{}
			checkQueue(t, q, p)
			for range 200 {
				time := n.below(times)
				what := n.below(spread) - spread/2
				switch n.below(5) {
				case 0:
					what = revoke
				case 1, 2:
					what = deletion
				}
				before, bridges := p.now(), p.bridges()
				old := maps.Clone(p)
				if change(t, q, p, time, what) {
					checkLaw(t, old, before, bridges, p.now(), time, what)
				}
				checkQueue(t, q, p)
			}
		}
	}
}

// checkLaw checks which key P35.6 says that an insertion adds, and a deletion takes away.
func checkLaw(t *testing.T, old past, before []element, bridges []int, after []element, time, what int) {
	t.Helper()
	if what == revoke {
		return
	}
	all, _ := old.run()
	want := keys(before)
	if what != deletion {
		last := -1
		for _, b := range bridges {
			if b < time {
				last = b
			}
		}
		greatest := what
		for i, at := range old.times() {
			if at > last && old[at] == deletion {
				gone := []element{}
				if i > 0 {
					gone = all[i-1][:1]
				}
				greatest = max(greatest, gone[0].key)
			}
		}
		want = append(want, greatest)
		slices.Sort(want)
	} else {
		have := before
		var at []element // the queue at the time
		for i, other := range old.times() {
			if other < time {
				at = all[i]
			}
		}
		if isIn(at, before) {
			have = at
		} else if i := slices.IndexFunc(bridges, func(b int) bool { return b > time }); i >= 0 {
			have = all[slices.Index(old.times(), bridges[i])]
		}
		i := slices.Index(want, have[0].key)
		want = slices.Delete(want, i, i+1)
	}
	if !slices.Equal(keys(after), want) {
		t.Fatal(old, time, what, keys(after), want)
	}
}

// The order of changes does not matter, and what is added and revoked leaves no trace.
func TestOrders(t *testing.T) {
	n := numbers(5)
	for range 50 {
		p := past{}
		for time := range 40 {
			p[time*3] = n.below(10)
			if n.below(2) == 0 {
				p[time*3] = deletion
			}
			if _, ok := p.run(); !ok {
				delete(p, time*3)
			}
		}
		forwards, backwards := partialretro.NewQueue(), partialretro.NewQueue()
		for _, time := range p.times() {
			if p[time] == deletion {
				forwards.DeleteMin(time)
			} else {
				forwards.Insert(time, p[time])
			}
		}
		// A deletion cannot come before the insertions that it needs.
		for _, deletions := range []bool{false, true} {
			for _, time := range slices.Backward(p.times()) {
				if p[time] == deletion && deletions {
					backwards.DeleteMin(time)
				} else if p[time] != deletion && !deletions {
					backwards.Insert(time, p[time])
				}
			}
		}
		checkQueue(t, forwards, p)
		checkQueue(t, backwards, p)
		for range 20 {
			time := 3*n.below(40) + 1
			if change(t, forwards, p, time, n.below(10)) {
				change(t, forwards, p, time, revoke)
			}
			if change(t, forwards, p, time, deletion) {
				change(t, forwards, p, time, revoke)
			}
			checkQueue(t, forwards, p)
		}
	}
}

func TestExample(t *testing.T) {
	q, p := partialretro.NewQueue(), past{}
	for _, c := range [][2]int{{1, 5}, {2, 3}, {4, 8}, {3, deletion}, {6, deletion}} {
		change(t, q, p, c[0], c[1])
	}
	if !slices.Equal(q.Keys(), []int{8}) || !slices.Equal(q.Bridges(), []int{6}) {
		t.Error(q.Keys(), q.Bridges())
	}
	if err := q.Insert(5, 4); err != api.OK || !slices.Equal(q.Keys(), []int{5, 8}) {
		t.Error(err, q.Keys())
	}
}

func TestQueueErrors(t *testing.T) {
	q := partialretro.NewQueue()
	for _, key := range []int{api.MaxKey + 1, -api.MaxKey - 1, -1 << 63} {
		if err := q.Insert(-1, key); err != api.ErrArg {
			t.Error(key, err)
		}
	}
	for _, time := range []int{-1, api.MaxTime + 1, 1<<63 - 1, -1 << 63} {
		if q.Insert(time, 0) != api.ErrRange || q.DeleteMin(time) != api.ErrRange || q.Revoke(time) != api.ErrRange {
			t.Error(time)
		}
	}
	if q.DeleteMin(0) != api.ErrEmpty || q.Revoke(0) != api.ErrNone {
		t.Error("empty")
	}
	checkQueue(t, q, past{})
	p := past{}
	for i := range api.MaxOps - 2 {
		p[i*5+10] = i % 7
		q.Insert(i*5+10, i%7)
	}
	change(t, q, p, 0, api.MaxKey)
	change(t, q, p, api.MaxTime, -api.MaxKey)
	for _, c := range [][2]int{{11, 0}, {11, deletion}} {
		err := q.Insert(c[0], c[1]%deletion)
		if c[1] == deletion {
			err = q.DeleteMin(c[0])
		}
		if err != api.ErrFull {
			t.Error(c, err)
		}
	}
	if q.Insert(10, 1) != api.ErrExists || q.DeleteMin(10) != api.ErrExists || q.Revoke(11) != api.ErrNone || q.Insert(11, api.MaxKey+1) != api.ErrArg {
		t.Error("full")
	}
	if want := keys(p.now()); !slices.Equal(q.Keys(), want) || len(q.Times()) != api.MaxOps {
		t.Error(q.Keys())
	}
	change(t, q, p, 0, revoke)
	change(t, q, p, 1, deletion)
	change(t, q, p, 11, deletion)
	if want := keys(p.now()); !slices.Equal(q.Keys(), want) || len(q.Times()) != api.MaxOps {
		t.Error(q.Keys())
	}
}

func TestQueueSharing(t *testing.T) {
	q, p := partialretro.NewQueue(), past{}
	for i := range 6 {
		change(t, q, p, i, 5-i)
	}
	clear(q.Keys())
	clear(q.Times())
	clear(q.Bridges())
	checkQueue(t, q, p)
	q = nil
	if q.Insert(0, 1<<40) != api.ErrArg || q.DeleteMin(-1) != api.ErrArg || q.Revoke(-1) != api.ErrArg || q.Keys() != nil || q.Times() != nil || q.Bridges() != nil {
		t.Error("nil")
	}
	if n, err := q.Min(); n != 0 || err != api.ErrArg {
		t.Error(n, err)
	}
}
