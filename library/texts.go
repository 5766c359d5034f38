package library

const listText = `desc list {
type N { k int; v int; n N }
var r N
var c int
proc before(k int) N {
	local p N;
	local q N;
	q = r;
	while q != nil and q.k < k {
		p = q;
		q = q.n;
	}
	return p;
}
proc after(p N) N {
	return if(p == nil, r, p.n);
}
proc put(k int, v int) int {
	local p N;
	local q N;
	p = before(k);
	q = after(p);
	if q != nil and q.k == k {
		q.v = v;
		return 1;
	}
	q = make(k, v, q);
	if p == nil {
		r = q;
	} else {
		p.n = q;
	}
	c = c + 1;
	return 0;
}
proc make(k int, v int, n N) N {
	local x N;
	x = new N;
	x.k = k;
	x.v = v;
	x.n = n;
	return x;
}
proc get(k int) int {
	local q N;
	q = after(before(k));
	if q != nil and q.k == k {
		return q.v;
	}
	return -1099511627776;
}
proc remove(k int) int {
	local p N;
	local q N;
	p = before(k);
	q = after(p);
	if q == nil or q.k != k {
		return -1099511627776;
	}
	if p == nil {
		r = q.n;
	} else {
		p.n = q.n;
	}
	c = c - 1;
	return q.v;
}
proc floor(k int) int {
	local p N;
	local q N;
	p = before(k);
	q = after(p);
	if q != nil and q.k == k {
		return k;
	}
	return if(p == nil, -1099511627776, p.k);
}
proc ceiling(k int) int {
	local q N;
	q = after(before(k));
	return if(q == nil, -1099511627776, q.k);
}
proc rank(k int) int {
	local q N;
	local i int;
	q = r;
	while q != nil and q.k < k {
		i = i + 1;
		q = q.n;
	}
	return i;
}
proc select(i int) int {
	local q N;
	if i < 0 or c <= i {
		return -1099511627776;
	}
	q = r;
	while 0 < i {
		q = q.n;
		i = i - 1;
	}
	return q.k;
}
proc size() int {
	return c;
}
measure length(N) nil 0 = 1 + length(this.n)
invariant sorted(N) = this.n == nil or this.k < this.n.k
invariant counted = c == length(r)
bound put = 2 * length(r) + 10
bound get = 2 * length(r) + 4
bound remove = 2 * length(r) + 6
bound size = 0
}
`

const bstText = `desc bst {
type N { k int; v int; l N; r N }
var t N
var c int
proc put(k int, v int) int {
	local p N;
	local q N;
	q = t;
	while q != nil {
		if q.k == k {
			q.v = v;
			return 1;
		}
		p = q;
		q = if(k < q.k, q.l, q.r);
	}
	q = new N;
	q.k = k;
	q.v = v;
	if p == nil {
		t = q;
	} else {
		if k < p.k {
			p.l = q;
		} else {
			p.r = q;
		}
	}
	c = c + 1;
	return 0;
}
proc get(k int) int {
	local q N;
	q = t;
	while q != nil and q.k != k {
		q = if(k < q.k, q.l, q.r);
	}
	return if(q == nil, -1099511627776, q.v);
}
proc cut(p N, q N) {
	local x N;
	x = if(q.l != nil, q.l, q.r);
	if p == nil {
		t = x;
	} else {
		if p.l == q {
			p.l = x;
		} else {
			p.r = x;
		}
	}
}
proc remove(k int) int {
	local p N;
	local q N;
	local m N;
	local v int;
	q = t;
	while q != nil and q.k != k {
		p = q;
		q = if(k < q.k, q.l, q.r);
	}
	if q == nil {
		return -1099511627776;
	}
	v = q.v;
	if q.l != nil and q.r != nil {
		p = q;
		m = q.r;
		while m.l != nil {
			p = m;
			m = m.l;
		}
		q.k = m.k;
		q.v = m.v;
		q = m;
	}
	cut(p, q);
	c = c - 1;
	return v;
}
proc floor(k int) int {
	local q N;
	local best int;
	best = -1099511627776;
	q = t;
	while q != nil {
		if q.k <= k {
			best = q.k;
			q = q.r;
		} else {
			q = q.l;
		}
	}
	return best;
}
proc ceiling(k int) int {
	local q N;
	local best int;
	best = -1099511627776;
	q = t;
	while q != nil {
		if k <= q.k {
			best = q.k;
			q = q.l;
		} else {
			q = q.r;
		}
	}
	return best;
}
proc size() int {
	return c;
}
measure size_of(N) nil 0 = 1 + size_of(this.l) + size_of(this.r)
measure height(N) nil 0 = 1 + max(height(this.l), height(this.r))
measure least(N) nil 1099511627776 = min(this.k, min(least(this.l), least(this.r)))
measure greatest(N) nil -1099511627776 = max(this.k, max(greatest(this.l), greatest(this.r)))
invariant ordered(N) = greatest(this.l) < this.k and this.k < least(this.r)
invariant counted = c == size_of(t)
bound put = 3 * height(t) + 8
bound get = 3 * height(t) + 2
bound floor = 3 * height(t)
bound ceiling = 3 * height(t)
bound size = 0
}
`

const splayText = `desc splay {
type N { k int; v int; l N; r N }
var t N
var c int
proc right(x N) N {
	local y N;
	y = x.l;
	x.l = y.r;
	y.r = x;
	return y;
}
proc left(x N) N {
	local y N;
	y = x.r;
	x.r = y.l;
	y.l = x;
	return y;
}
proc splay(x N, k int) N {
	if x == nil {
		return nil;
	}
	if k < x.k {
		if x.l == nil {
			return x;
		}
		if k < x.l.k {
			x.l.l = splay(x.l.l, k);
			x = right(x);
		} else {
			if x.l.k < k {
				x.l.r = splay(x.l.r, k);
				if x.l.r != nil {
					x.l = left(x.l);
				}
			}
		}
		return if(x.l == nil, x, right(x));
	}
	if x.k < k {
		if x.r == nil {
			return x;
		}
		if x.r.k < k {
			x.r.r = splay(x.r.r, k);
			x = left(x);
		} else {
			if k < x.r.k {
				x.r.l = splay(x.r.l, k);
				if x.r.l != nil {
					x.r = right(x.r);
				}
			}
		}
		return if(x.r == nil, x, left(x));
	}
	return x;
}
proc get(k int) int {
	t = splay(t, k);
	if t != nil and t.k == k {
		return t.v;
	}
	return -1099511627776;
}
proc put(k int, v int) int {
	local x N;
	t = splay(t, k);
	if t != nil and t.k == k {
		t.v = v;
		return 1;
	}
	x = new N;
	x.k = k;
	x.v = v;
	if t != nil {
		if k < t.k {
			x.l = t.l;
			x.r = t;
			t.l = nil;
		} else {
			x.r = t.r;
			x.l = t;
			t.r = nil;
		}
	}
	t = x;
	c = c + 1;
	return 0;
}
proc remove(k int) int {
	local x N;
	local y N;
	t = splay(t, k);
	if t == nil or t.k != k {
		return -1099511627776;
	}
	x = t;
	if x.l == nil {
		t = x.r;
	} else {
		y = splay(x.l, k);
		y.r = x.r;
		t = y;
	}
	c = c - 1;
	return x.v;
}
proc floor(k int) int {
	t = splay(t, k);
	if t == nil {
		return -1099511627776;
	}
	if t.k <= k {
		return t.k;
	}
	if t.l == nil {
		return -1099511627776;
	}
	t.l = splay(t.l, k);
	return t.l.k;
}
proc size() int {
	return c;
}
measure size_of(N) nil 0 = 1 + size_of(this.l) + size_of(this.r)
measure least(N) nil 1099511627776 = min(this.k, min(least(this.l), least(this.r)))
measure greatest(N) nil -1099511627776 = max(this.k, max(greatest(this.l), greatest(this.r)))
invariant ordered(N) = greatest(this.l) < this.k and this.k < least(this.r)
invariant counted = c == size_of(t)
potential N = 24 * log(size_of(this))
bound get = 72 * log(size_of(t)) + 40
bound put = 96 * log(size_of(t) + 1) + 60
bound remove = 144 * log(size_of(t)) + 90
bound floor = 144 * log(size_of(t)) + 90
bound size = 0
}
`

const treapText = `desc treap {
type N { k int; v int; p int; l N; r N }
var t N
var c int
var last int
proc right(x N) N {
	local y N;
	y = x.l;
	x.l = y.r;
	y.r = x;
	return y;
}
proc left(x N) N {
	local y N;
	y = x.r;
	x.r = y.l;
	y.l = x;
	return y;
}
proc insert(x N, k int, v int) N {
	if x == nil {
		x = new N;
		x.k = k;
		x.v = v;
		x.p = k * 40503 % 65536;
		c = c + 1;
		return x;
	}
	if k == x.k {
		x.v = v;
		return x;
	}
	if k < x.k {
		x.l = insert(x.l, k, v);
		return if(x.l.p < x.p, right(x), x);
	}
	x.r = insert(x.r, k, v);
	return if(x.r.p < x.p, left(x), x);
}
proc merge(a N, b N) N {
	if a == nil {
		return b;
	}
	if b == nil {
		return a;
	}
	if a.p < b.p {
		a.r = merge(a.r, b);
		return a;
	}
	b.l = merge(a, b.l);
	return b;
}
proc erase(x N, k int) N {
	if x == nil {
		return nil;
	}
	if k == x.k {
		c = c - 1;
		last = x.v;
		return merge(x.l, x.r);
	}
	if k < x.k {
		x.l = erase(x.l, k);
	} else {
		x.r = erase(x.r, k);
	}
	return x;
}
proc put(k int, v int) int {
	local n int;
	n = c;
	t = insert(t, k, v);
	return if(c == n, 1, 0);
}
proc get(k int) int {
	local q N;
	q = t;
	while q != nil and q.k != k {
		q = if(k < q.k, q.l, q.r);
	}
	return if(q == nil, -1099511627776, q.v);
}
proc remove(k int) int {
	local n int;
	n = c;
	t = erase(t, k);
	return if(c == n, -1099511627776, last);
}
proc size() int {
	return c;
}
measure size_of(N) nil 0 = 1 + size_of(this.l) + size_of(this.r)
measure least(N) nil 1099511627776 = min(this.k, min(least(this.l), least(this.r)))
measure greatest(N) nil -1099511627776 = max(this.k, max(greatest(this.l), greatest(this.r)))
invariant ordered(N) = greatest(this.l) < this.k and this.k < least(this.r)
invariant heap(N) = (this.l == nil or this.p <= this.l.p) and (this.r == nil or this.p <= this.r.p)
invariant counted = c == size_of(t)
}
`

const weightbalancedText = `desc weightbalanced {
type N { k int; v int; s int; l N; r N }
var t N
var m N
var last int
proc count(x N) int {
	return if(x == nil, 0, x.s);
}
proc fix(x N) {
	x.s = count(x.l) + count(x.r) + 1;
}
proc right(x N) N {
	local y N;
	y = x.l;
	x.l = y.r;
	y.r = x;
	fix(x);
	fix(y);
	return y;
}
proc left(x N) N {
	local y N;
	y = x.r;
	x.r = y.l;
	y.l = x;
	fix(x);
	fix(y);
	return y;
}
proc heavy(a N, b N) bool {
	return 3 * (count(a) + 1) < count(b) + 1;
}
proc single(a N, b N) bool {
	return count(a) + 1 < 2 * (count(b) + 1);
}
proc balance(x N) N {
	fix(x);
	if heavy(x.l, x.r) {
		if not single(x.r.l, x.r.r) {
			x.r = right(x.r);
		}
		return left(x);
	}
	if heavy(x.r, x.l) {
		if not single(x.l.r, x.l.l) {
			x.l = left(x.l);
		}
		return right(x);
	}
	return x;
}
proc insert(x N, k int, v int) N {
	if x == nil {
		x = new N;
		x.k = k;
		x.v = v;
		x.s = 1;
		return x;
	}
	if k == x.k {
		x.v = v;
		return x;
	}
	if k < x.k {
		x.l = insert(x.l, k, v);
	} else {
		x.r = insert(x.r, k, v);
	}
	return balance(x);
}
proc behead(x N) N {
	if x.l == nil {
		m = x;
		return x.r;
	}
	x.l = behead(x.l);
	return balance(x);
}
proc erase(x N, k int) N {
	local y N;
	if x == nil {
		return nil;
	}
	if k == x.k {
		last = x.v;
		if x.l == nil {
			return x.r;
		}
		if x.r == nil {
			return x.l;
		}
		y = behead(x.r);
		m.l = x.l;
		m.r = y;
		return balance(m);
	}
	if k < x.k {
		x.l = erase(x.l, k);
	} else {
		x.r = erase(x.r, k);
	}
	return balance(x);
}
proc put(k int, v int) int {
	local n int;
	n = count(t);
	t = insert(t, k, v);
	return if(count(t) == n, 1, 0);
}
proc get(k int) int {
	local q N;
	q = t;
	while q != nil and q.k != k {
		q = if(k < q.k, q.l, q.r);
	}
	return if(q == nil, -1099511627776, q.v);
}
proc remove(k int) int {
	local n int;
	n = count(t);
	t = erase(t, k);
	m = nil;
	return if(count(t) == n, -1099511627776, last);
}
proc floor(k int) int {
	local q N;
	local best int;
	best = -1099511627776;
	q = t;
	while q != nil {
		if q.k <= k {
			best = q.k;
			q = q.r;
		} else {
			q = q.l;
		}
	}
	return best;
}
proc ceiling(k int) int {
	local q N;
	local best int;
	best = -1099511627776;
	q = t;
	while q != nil {
		if k <= q.k {
			best = q.k;
			q = q.l;
		} else {
			q = q.r;
		}
	}
	return best;
}
proc rank(k int) int {
	local q N;
	local i int;
	q = t;
	while q != nil {
		if q.k < k {
			i = i + count(q.l) + 1;
			q = q.r;
		} else {
			q = q.l;
		}
	}
	return i;
}
proc select(i int) int {
	local q N;
	if i < 0 or count(t) <= i {
		return -1099511627776;
	}
	q = t;
	while count(q.l) != i {
		if i < count(q.l) {
			q = q.l;
		} else {
			i = i - count(q.l) - 1;
			q = q.r;
		}
	}
	return q.k;
}
proc size() int {
	return count(t);
}
measure size_of(N) nil 0 = 1 + size_of(this.l) + size_of(this.r)
measure least(N) nil 1099511627776 = min(this.k, min(least(this.l), least(this.r)))
measure greatest(N) nil -1099511627776 = max(this.k, max(greatest(this.l), greatest(this.r)))
invariant ordered(N) = greatest(this.l) < this.k and this.k < least(this.r)
invariant counted(N) = this.s == size_of(this)
invariant balanced(N) = size_of(this.l) + 1 <= 3 * (size_of(this.r) + 1) and size_of(this.r) + 1 <= 3 * (size_of(this.l) + 1)
bound get = 8 * log(size_of(t) + 1) + 12
bound put = 160 * log(size_of(t) + 1) + 240
bound remove = 160 * log(size_of(t) + 1) + 300
bound floor = 8 * log(size_of(t) + 1) + 12
bound ceiling = 8 * log(size_of(t) + 1) + 12
bound rank = 12 * log(size_of(t) + 1) + 16
bound size = 2
}
`

const skewheapText = `desc skewheap {
type N { k int; l N; r N }
var t N
var c int
proc merge(a N, b N) N {
	local x N;
	local y N;
	local z N;
	while a != nil and b != nil {
		if b.k < a.k {
			z = a;
			a = b;
			b = z;
		}
		if x == nil {
			x = a;
		} else {
			y.l = a;
		}
		y = a;
		a = a.r;
		y.r = y.l;
	}
	if a == nil {
		a = b;
	}
	if x == nil {
		return a;
	}
	y.l = a;
	return x;
}
proc insert(p int) int {
	local x N;
	x = new N;
	x.k = p;
	t = merge(t, x);
	c = c + 1;
	return 0;
}
proc min_key() int {
	return if(t == nil, -1099511627776, t.k);
}
proc deletemin() int {
	local p int;
	if t == nil {
		return -1099511627776;
	}
	p = t.k;
	t = merge(t.l, t.r);
	c = c - 1;
	return p;
}
proc size() int {
	return c;
}
measure size_of(N) nil 0 = 1 + size_of(this.l) + size_of(this.r)
invariant heap(N) = (this.l == nil or this.k <= this.l.k) and (this.r == nil or this.k <= this.r.k)
invariant counted = c == size_of(t)
potential N = if(size_of(this.l) < size_of(this.r), 6, 0)
bound insert = 12 * log(size_of(t)) + 36
bound min_key = 1
bound deletemin = 24 * log(size_of(t)) + 36
bound size = 0
}
`

const leftistText = `desc leftist {
type N { k int; s int; l N; r N }
var t N
var c int
proc dist(x N) int {
	return if(x == nil, 0, x.s);
}
proc merge(a N, b N) N {
	local x N;
	if a == nil {
		return b;
	}
	if b == nil {
		return a;
	}
	if b.k < a.k {
		x = a;
		a = b;
		b = x;
	}
	a.r = merge(a.r, b);
	if dist(a.l) < dist(a.r) {
		x = a.l;
		a.l = a.r;
		a.r = x;
	}
	a.s = dist(a.r) + 1;
	return a;
}
proc insert(p int) int {
	local x N;
	x = new N;
	x.k = p;
	x.s = 1;
	t = merge(t, x);
	c = c + 1;
	return 0;
}
proc min_key() int {
	return if(t == nil, -1099511627776, t.k);
}
proc deletemin() int {
	local p int;
	if t == nil {
		return -1099511627776;
	}
	p = t.k;
	t = merge(t.l, t.r);
	c = c - 1;
	return p;
}
proc size() int {
	return c;
}
measure size_of(N) nil 0 = 1 + size_of(this.l) + size_of(this.r)
measure path(N) nil 0 = 1 + min(path(this.l), path(this.r))
invariant heap(N) = (this.l == nil or this.k <= this.l.k) and (this.r == nil or this.k <= this.r.k)
invariant leaning(N) = path(this.r) <= path(this.l)
invariant paths(N) = this.s == path(this)
invariant counted = c == size_of(t)
bound insert = 16 * log(size_of(t)) + 48
bound min_key = 1
bound deletemin = 32 * log(size_of(t)) + 72
bound size = 0
}
`

const pairingText = `desc pairing {
type N { k int; c N; s N }
var t N
var n int
proc link(a N, b N) N {
	local x N;
	if a == nil {
		return b;
	}
	if b == nil {
		return a;
	}
	if b.k < a.k {
		x = a;
		a = b;
		b = x;
	}
	b.s = a.c;
	a.c = b;
	return a;
}
proc pairs(x N) N {
	local a N;
	local b N;
	local l N;
	while x != nil {
		a = x;
		b = a.s;
		x = if(b == nil, nil, b.s);
		a.s = nil;
		if b != nil {
			b.s = nil;
		}
		a = link(a, b);
		a.s = l;
		l = a;
	}
	a = nil;
	while l != nil {
		b = l;
		l = l.s;
		b.s = nil;
		a = link(a, b);
	}
	return a;
}
proc insert(p int) int {
	local x N;
	x = new N;
	x.k = p;
	t = link(t, x);
	n = n + 1;
	return 0;
}
proc min_key() int {
	return if(t == nil, -1099511627776, t.k);
}
proc deletemin() int {
	local p int;
	if t == nil {
		return -1099511627776;
	}
	p = t.k;
	t = pairs(t.c);
	n = n - 1;
	return p;
}
proc size() int {
	return n;
}
measure size_of(N) nil 0 = 1 + size_of(this.c) + size_of(this.s)
measure least(N) nil 1099511627776 = min(this.k, min(least(this.c), least(this.s)))
invariant heap(N) = this.k <= least(this.c)
invariant rooted = t == nil or t.s == nil
invariant counted = n == size_of(t)
bound insert = 8
bound min_key = 1
bound size = 0
}
`

const unionfindText = `desc unionfind {
type E { i int; s int; p E; n E }
var l E
var m int
var c int
proc at(i int) E {
	local x E;
	x = l;
	while x.i != i {
		x = x.n;
	}
	return x;
}
proc root(x E) E {
	while x.p != nil {
		if x.p.p != nil {
			x.p = x.p.p;
		}
		x = x.p;
	}
	return x;
}
proc known(a int) bool {
	return 0 <= a and a < m;
}
proc make() int {
	local x E;
	x = new E;
	x.i = m;
	x.s = 1;
	x.n = l;
	l = x;
	m = m + 1;
	c = c + 1;
	return m - 1;
}
proc union(a int, b int) int {
	local x E;
	local y E;
	local z E;
	if not known(a) or not known(b) {
		return -1099511627776;
	}
	x = root(at(a));
	y = root(at(b));
	if x == y {
		return 0;
	}
	if x.s < y.s {
		z = x;
		x = y;
		y = z;
	}
	y.p = x;
	x.s = x.s + y.s;
	c = c - 1;
	return 1;
}
proc same(a int, b int) int {
	if not known(a) or not known(b) {
		return -1099511627776;
	}
	return if(root(at(a)) == root(at(b)), 1, 0);
}
proc size(a int) int {
	local x E;
	if not known(a) {
		return -1099511627776;
	}
	x = root(at(a));
	return x.s;
}
proc count() int {
	return c;
}
measure length(E) nil 0 = 1 + length(this.n)
measure depth(E) nil -1 = 1 + depth(this.p)
measure roots(E) nil 0 = if(this.p == nil, 1, 0) + roots(this.n)
invariant numbered(E) = this.i == length(this.n)
invariant shallow(E) = depth(this) <= log(m)
invariant heavier(E) = this.p == nil or this.s <= this.p.s
invariant made = m == length(l)
invariant counted = c == roots(l)
bound make = 5
bound union = 4 * m + 16 * log(m) + 30
bound same = 4 * m + 16 * log(m) + 30
bound size = 2 * m + 8 * log(m) + 15
bound count = 0
}
`

const ropeText = `desc rope {
type N { v int; p int; s int; w int; f bool; l N; r N }
var t N
var x1 N
var x2 N
var g int
proc count(x N) int {
	return if(x == nil, 0, x.s);
}
proc total(x N) int {
	return if(x == nil, 0, x.w);
}
proc fix(x N) {
	x.s = count(x.l) + count(x.r) + 1;
	x.w = total(x.l) + total(x.r) + x.v;
}
proc turn(x N) {
	if x != nil {
		x.f = not x.f;
	}
}
proc push(x N) {
	local y N;
	if x.f {
		y = x.l;
		x.l = x.r;
		x.r = y;
		turn(x.l);
		turn(x.r);
		x.f = false;
	}
}
proc split(x N, i int) {
	if x == nil {
		x1 = nil;
		x2 = nil;
		return;
	}
	push(x);
	if i <= count(x.l) {
		split(x.l, i);
		x.l = x2;
		fix(x);
		x2 = x;
	} else {
		split(x.r, i - count(x.l) - 1);
		x.r = x1;
		fix(x);
		x1 = x;
	}
}
proc join(a N, b N) N {
	if a == nil {
		return b;
	}
	if b == nil {
		return a;
	}
	if a.p < b.p {
		push(a);
		a.r = join(a.r, b);
		fix(a);
		return a;
	}
	push(b);
	b.l = join(a, b.l);
	fix(b);
	return b;
}
proc done(x N) {
	t = x;
	x1 = nil;
	x2 = nil;
}
proc insert(i int, v int) int {
	local x N;
	if i < 0 or count(t) < i {
		return -1099511627776;
	}
	x = new N;
	x.v = v;
	x.w = v;
	x.s = 1;
	g = (g * 75 + 74) % 65537;
	x.p = g;
	split(t, i);
	done(join(join(x1, x), x2));
	return 0;
}
proc remove(i int) int {
	local a N;
	local x N;
	if i < 0 or count(t) <= i {
		return -1099511627776;
	}
	split(t, i);
	a = x1;
	split(x2, 1);
	x = x1;
	done(join(a, x2));
	return x.v;
}
proc get(i int) int {
	local x N;
	if i < 0 or count(t) <= i {
		return -1099511627776;
	}
	x = t;
	push(x);
	while count(x.l) != i {
		if i < count(x.l) {
			x = x.l;
		} else {
			i = i - count(x.l) - 1;
			x = x.r;
		}
		push(x);
	}
	return x.v;
}
proc set(i int, v int) int {
	local o int;
	o = remove(i);
	if o != -1099511627776 {
		insert(i, v);
	}
	return o;
}
proc sum(a int, b int) int {
	local x N;
	local y N;
	local n int;
	if a < 0 or b < a or count(t) < b {
		return -1099511627776;
	}
	split(t, a);
	x = x1;
	split(x2, b - a);
	y = x2;
	n = total(x1);
	done(join(join(x, x1), y));
	return n;
}
proc reverse(a int, b int) int {
	local x N;
	local y N;
	if a < 0 or b < a or count(t) < b {
		return -1099511627776;
	}
	split(t, a);
	x = x1;
	split(x2, b - a);
	y = x2;
	turn(x1);
	done(join(join(x, x1), y));
	return 0;
}
proc size() int {
	return count(t);
}
measure size_of(N) nil 0 = 1 + size_of(this.l) + size_of(this.r)
measure sum_of(N) nil 0 = this.v + sum_of(this.l) + sum_of(this.r)
invariant counted(N) = this.s == size_of(this)
invariant summed(N) = this.w == sum_of(this)
invariant heap(N) = (this.l == nil or this.p <= this.l.p) and (this.r == nil or this.p <= this.r.p)
}
`

const gapText = `desc gap {
type C { v int; n C }
var l C
var r C
var a int
var b int
proc move(i int) {
	local x C;
	while i < a {
		x = l;
		l = x.n;
		x.n = r;
		r = x;
		a = a - 1;
		b = b + 1;
	}
	while a < i {
		x = r;
		r = x.n;
		x.n = l;
		l = x;
		a = a + 1;
		b = b - 1;
	}
}
proc insert(i int, v int) int {
	local x C;
	if i < 0 or a + b < i {
		return -1099511627776;
	}
	move(i);
	x = new C;
	x.v = v;
	x.n = l;
	l = x;
	a = a + 1;
	return 0;
}
proc remove(i int) int {
	local x C;
	if i < 0 or a + b <= i {
		return -1099511627776;
	}
	move(i);
	x = r;
	r = x.n;
	b = b - 1;
	return x.v;
}
proc get(i int) int {
	if i < 0 or a + b <= i {
		return -1099511627776;
	}
	move(i);
	return r.v;
}
proc set(i int, v int) int {
	local o int;
	if i < 0 or a + b <= i {
		return -1099511627776;
	}
	move(i);
	o = r.v;
	r.v = v;
	return o;
}
proc size() int {
	return a + b;
}
measure length(C) nil 0 = 1 + length(this.n)
invariant left = a == length(l)
invariant right = b == length(r)
bound insert = 2 * max(i - a, a - i) + 3
bound remove = 2 * max(i - a, a - i) + 2
bound get = 2 * max(i - a, a - i) + 1
bound set = 2 * max(i - a, a - i) + 2
bound size = 0
}
`
