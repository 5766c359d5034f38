package cache

import "heartwood/api"

// LRU returns the misses of references if the least recently used block is evicted.
func LRU(l []int, m int) (int, api.Errno) {
	if err := check(l, m); err != api.OK {
		return 0, err
	}
	c, _ := New(m)
	for _, block := range l {
		c.Touch(block)
	}
	return c.misses, api.OK
}

// FIFO returns the misses of references if the block is evicted that was brought in the earliest.
func FIFO(l []int, m int) (int, api.Errno) {
	if err := check(l, m); err != api.OK {
		return 0, err
	}
	in := map[int]bool{}
	var brought []int // all blocks, in the order in which they were brought in
	for _, block := range l {
		if in[block] {
			continue
		}
		if len(in) == m {
			delete(in, brought[len(brought)-m])
		}
		in[block] = true
		brought = append(brought, block)
	}
	return len(brought), api.OK
}

// Optimal returns the misses of references if the block is evicted whose next reference is the latest.
func Optimal(l []int, m int) (int, api.Errno) {
	if err := check(l, m); err != api.OK {
		return 0, err
	}
	next := nextReferences(l)
	places := map[int]int{} // of the blocks that are in
	blocks := make([]int, 0, m)
	due := make([]int, 0, m) // when the block of each place is referenced next
	misses := 0
	for i, block := range l {
		if place, hit := places[block]; hit {
			due[place] = next[i]
			continue
		}
		misses++
		place := len(blocks)
		if place < m {
			blocks, due = append(blocks, block), append(due, next[i])
		} else {
			place = latest(due)
			delete(places, blocks[place])
			blocks[place], due[place] = block, next[i]
		}
		places[block] = place
	}
	return misses, api.OK
}

// nextReferences returns for each reference the index of the next one of the same block, or the number of references if
// there is none.
func nextReferences(l []int) []int {
	next := make([]int, len(l))
	seen := map[int]int{}
	for i := len(l) - 1; i >= 0; i-- {
		next[i] = len(l)
		if j, again := seen[l[i]]; again {
			next[i] = j
		}
		seen[l[i]] = i
	}
	return next
}

// latest returns the index of the greatest number.
func latest(l []int) int {
	best := 0
	for i, n := range l {
		if n > l[best] {
			best = i
		}
	}
	return best
}

// Distances returns the distance of each reference.
func Distances(l []int) ([]int, api.Errno) {
	if err := check(l, 1); err != api.OK {
		return nil, err
	}
	return distances(l), api.OK
}

// distances counts, for each reference, the last references of blocks from that of its own one on.
func distances(l []int) []int {
	last := map[int]int{}
	marks := make(counter, len(l)+1)
	r := make([]int, len(l))
	for i, block := range l {
		if j, again := last[block]; again {
			r[i] = marks.before(i) - marks.before(j)
			marks.add(j, -1)
		}
		last[block] = i
		marks.add(i, 1)
	}
	return r
}

// counter counts marks at indices: its element n has the number of those at the indices from n - (n & -n) to n - 1.
type counter []int

func (c counter) add(i, n int) {
	for i++; i < len(c); i += i & -i {
		c[i] += n
	}
}

// before returns the number of marks at indices less than i.
func (c counter) before(i int) int {
	n := 0
	for ; i > 0; i -= i & -i {
		n += c[i]
	}
	return n
}

// Curve returns the misses of LRU for the capacities 1 to m.
func Curve(l []int, m int) ([]int, api.Errno) {
	if err := check(l, m); err != api.OK {
		return nil, err
	}
	hits := make([]int, m+1) // with a capacity, but not with a lesser one
	for _, d := range distances(l) {
		if 1 <= d && d <= m {
			hits[d]++
		}
	}
	curve := make([]int, m)
	misses := len(l)
	for i := range curve {
		misses -= hits[i+1]
		curve[i] = misses
	}
	return curve, api.OK
}
