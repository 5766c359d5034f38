package partialretro

import (
	"slices"

	"heartwood/api"
)

// Queue is a priority queue whose past can be changed. A change in the past moves one element to the queue now, or away
// from it; which one, bridges tell. Elements with equal keys are ordered by the times of their insertion.
type Queue struct{ ops []queueOp } // in the order of their times

// queueOp is an operation of a queue.
type queueOp struct {
	time     int
	deletion bool
	key      int  // of an insertion
	stays    bool // whether the element of an insertion is in the queue now
}

func (o queueOp) isLost() bool { return !o.deletion && !o.stays }

func timeOfQueueOp(o queueOp) int { return o.time }

// NewQueue returns a queue without operations.
func NewQueue() *Queue { return &Queue{} }

// lost returns, for each number of first operations, how many elements that are in the queue after them are not in it
// now. If there are none, the time of the last of these operations is a bridge.
func (q *Queue) lost() []int {
	count := 0
	l := []int{0}
	for _, o := range q.ops {
		if o.deletion {
			count--
		} else if !o.stays {
			count++
		}
		l = append(l, count)
	}
	return l
}

// isEmptyFrom reports whether the queue is empty after some number of operations that is at least from.
func (q *Queue) isEmptyFrom(from int) bool {
	size := 0
	for i, o := range q.ops {
		if i >= from && size == 0 {
			return true
		}
		if o.deletion {
			size--
		} else {
			size++
		}
	}
	return size == 0
}

// restore moves the greatest element that is deleted after the last bridge of the first i operations to the queue now.
func (q *Queue) restore(i int) {
	lost := q.lost()
	for lost[i] != 0 {
		i--
	}
	best := -1
	for j := i; j < len(q.ops); j++ {
		if o := q.ops[j]; o.isLost() && (best < 0 || o.key >= q.ops[best].key) {
			best = j
		}
	}
	q.ops[best].stays = true
}

// withdraw moves the least element that is in the queue at the first bridge after at least i operations away from the
// queue now. After all operations there is always one.
func (q *Queue) withdraw(i int) {
	lost := q.lost()
	for lost[i] != 0 {
		i++
	}
	best := -1
	for j, o := range q.ops[:i] {
		if o.stays && (best < 0 || o.key < q.ops[best].key) {
			best = j
		}
	}
	q.ops[best].stays = false
}

// Insert adds the insertion of a key.
func (q *Queue) Insert(time, key int) api.Errno {
	if q == nil || !isKey(key) {
		return api.ErrArg
	}
	i, err := place(q.ops, time, timeOfQueueOp)
	if err != api.OK {
		return err
	}
	// What was lost before does not count the new element, which comes after the bridge.
	q.ops = slices.Insert(q.ops, i, queueOp{time: time, key: key})
	q.restore(i)
	return api.OK
}

// DeleteMin adds a deletion of the least key.
func (q *Queue) DeleteMin(time int) api.Errno {
	if q == nil {
		return api.ErrArg
	}
	i, err := place(q.ops, time, timeOfQueueOp)
	if err != api.OK {
		return err
	}
	if q.isEmptyFrom(i) {
		return api.ErrEmpty
	}
	q.withdraw(i)
	q.ops = slices.Insert(q.ops, i, queueOp{time: time, deletion: true})
	return api.OK
}

// Revoke removes the operation at a time.
func (q *Queue) Revoke(time int) api.Errno {
	if q == nil {
		return api.ErrArg
	}
	i, err := find(q.ops, time, timeOfQueueOp)
	if err != api.OK {
		return err
	}
	switch o := q.ops[i]; {
	case o.deletion:
		q.restore(i)
	case q.isEmptyFrom(i + 1):
		return api.ErrEmpty
	case o.isLost():
		q.withdraw(i + 1)
	}
	q.ops = slices.Delete(q.ops, i, i+1)
	return api.OK
}

// Keys returns the keys of the queue now, ascending.
func (q *Queue) Keys() []int {
	if q == nil {
		return nil
	}
	var keys []int
	for _, o := range q.ops {
		if o.stays {
			keys = append(keys, o.key)
		}
	}
	slices.Sort(keys)
	return keys
}

// Min returns the least key of the queue now.
func (q *Queue) Min() (int, api.Errno) {
	if q == nil {
		return 0, api.ErrArg
	}
	keys := q.Keys()
	if len(keys) == 0 {
		return 0, api.ErrEmpty
	}
	return keys[0], api.OK
}

// Times returns the times of all operations, ascending.
func (q *Queue) Times() []int {
	if q == nil {
		return nil
	}
	var times []int
	for _, o := range q.ops {
		times = append(times, o.time)
	}
	return times
}

// Bridges returns the times of operations that are bridges, ascending.
func (q *Queue) Bridges() []int {
	if q == nil {
		return nil
	}
	lost := q.lost()
	var times []int
	for i, o := range q.ops {
		if lost[i+1] == 0 {
			times = append(times, o.time)
		}
	}
	return times
}
