package veb

import mathbits "math/bits"

// wordBits is how many bits the elements of a tree have at most that is kept as the bits of one word.
const wordBits = 6

// tree is a set of integers with some bits. A great one keeps its least element apart; the other elements are in
// clusters by their high bits, and the summary has the numbers of the clusters that are not empty. Clusters are made
// when they are needed.
type tree struct {
	bits     int
	word     uint64
	filled   bool // whether a great tree has elements
	min, max int
	summary  *tree
	clusters map[int]*tree
}

func (t *tree) isWord() bool { return t.bits <= wordBits }

// low is how many bits of an element are those in its cluster.
func (t *tree) low() int { return t.bits / 2 }

// split returns the number of the cluster of x, and the element there.
func (t *tree) split(x int) (int, int) { return x >> t.low(), x & (1<<t.low() - 1) }

func (t *tree) join(high, low int) int { return high<<t.low() | low }

func (t *tree) isEmpty() bool { return t.word == 0 && !t.filled }

func (t *tree) least() int {
	if t.isWord() {
		return mathbits.TrailingZeros64(t.word)
	}
	return t.min
}

func (t *tree) greatest() int {
	if t.isWord() {
		return mathbits.Len64(t.word) - 1
	}
	return t.max
}

func (t *tree) contains(x int, steps *int) bool {
	*steps++
	if t.isWord() {
		return t.word>>x&1 == 1
	}
	if !t.filled || x < t.min || x > t.max {
		return false
	}
	high, low := t.split(x)
	c := t.clusters[high]
	return x == t.min || c != nil && c.contains(low, steps)
}

// insert puts in x, which is no element yet.
func (t *tree) insert(x int, steps *int) {
	*steps++
	if t.isWord() {
		t.word |= 1 << x
		return
	}
	if !t.filled {
		t.filled, t.min, t.max = true, x, x
		return
	}
	t.max = max(t.max, x)
	t.min, x = min(t.min, x), max(t.min, x)
	high, low := t.split(x)
	c := t.clusters[high]
	if c == nil {
		c = &tree{bits: t.low()}
		if t.clusters == nil {
			t.clusters = map[int]*tree{}
			t.summary = &tree{bits: t.bits - t.low()}
		}
		t.clusters[high] = c
		t.summary.insert(high, steps)
	}
	c.insert(low, steps)
}

// remove takes out x, which is an element.
func (t *tree) remove(x int, steps *int) {
	*steps++
	if t.isWord() {
		t.word &^= 1 << x
		return
	}
	if t.min == t.max {
		t.filled = false
		return
	}
	if x == t.min {
		first := t.summary.least()
		x = t.join(first, t.clusters[first].least())
		t.min = x
	}
	high, low := t.split(x)
	c := t.clusters[high]
	c.remove(low, steps)
	if c.isEmpty() {
		delete(t.clusters, high)
		t.summary.remove(high, steps)
	}
	if x == t.max {
		t.max = t.min
		if !t.summary.isEmpty() {
			last := t.summary.greatest()
			t.max = t.join(last, t.clusters[last].greatest())
		}
	}
}

// next returns the least element of a tree that is not empty that is greater than x, which may be any integer.
func (t *tree) next(x int, steps *int) (int, bool) {
	*steps++
	switch {
	case x < t.least():
		return t.least(), true
	case x >= t.greatest():
		return 0, false
	case t.isWord():
		return mathbits.TrailingZeros64(t.word >> (x + 1) << (x + 1)), true
	}
	high, low := t.split(x)
	if c := t.clusters[high]; c != nil && low < c.greatest() {
		y, found := c.next(low, steps)
		return t.join(high, y), found
	}
	high, found := t.summary.next(high, steps)
	if !found {
		return 0, false
	}
	return t.join(high, t.clusters[high].least()), true
}

// prev returns the greatest element of a tree that is not empty that is less than x, which may be any integer.
func (t *tree) prev(x int, steps *int) (int, bool) {
	*steps++
	switch {
	case x > t.greatest():
		return t.greatest(), true
	case x <= t.least():
		return 0, false
	case t.isWord():
		return mathbits.Len64(t.word&(1<<x-1)) - 1, true
	}
	high, low := t.split(x)
	if c := t.clusters[high]; c != nil && low > c.least() {
		y, found := c.prev(low, steps)
		return t.join(high, y), found
	}
	high, found := t.summary.prev(high, steps)
	if !found {
		return t.min, true
	}
	return t.join(high, t.clusters[high].greatest()), true
}
