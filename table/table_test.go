package table_test

import (
	"cmp"
	"maps"
	"math"
	"slices"
	"strings"
	"testing"

	"heartwood/api"
	"heartwood/table"
)

// numbers yields numbers by a fixed rule.
type numbers int

func (n *numbers) below(limit int) int {
	*n = *n * 48271 % 2147483647
	return int(*n) % limit
}

func (n *numbers) record(spread int) api.Record {
	r := api.Record{Key: n.below(spread) - spread/2, X: n.below(6), Y: n.below(6), W: n.below(20) - 10}
	for range n.below(6) {
		r.Name += string(rune('a' + n.below(3)))
	}
	return r
}

// tester has a table, and its records.
type tester struct {
	t       *testing.T
	table   *table.Table
	records map[int]api.Record
	next    int
}

func newTester(t *testing.T) *tester {
	t.Helper()
	r := &tester{t: t, table: table.New(), records: map[int]api.Record{}}
	r.check()
	return r
}

func (r *tester) ids() []int { return slices.Sorted(maps.Keys(r.records)) }

// with returns the identifiers of the records for which something is true, ascending.
func (r *tester) with(is func(api.Record) bool) []int {
	var l []int
	for _, id := range r.ids() {
		if is(r.records[id]) {
			l = append(l, id)
		}
	}
	return l
}

func (r *tester) hasKey(key int) bool {
	return len(r.with(func(x api.Record) bool { return x.Key == key })) > 0
}

func (r *tester) insert(x api.Record) {
	r.t.Helper()
	want, id := api.OK, r.next
	switch {
	case !isValid(x):
		want = api.ErrArg
	case r.hasKey(x.Key):
		want = api.ErrExists
	case len(r.records) == api.MaxList:
		want = api.ErrFull
	}
	if want != api.OK {
		id = 0
	} else {
		r.records[id] = x
		r.next++
	}
	if got, err := r.table.Insert(x); got != id || err != want {
		r.t.Fatal("Insert", x, got, err, id, want)
	}
}

func isValid(x api.Record) bool {
	for _, n := range []int{x.Key, x.X, x.Y, x.W} {
		if n < -api.MaxKey || n > api.MaxKey {
			return false
		}
	}
	return len(x.Name) <= 40 && !strings.ContainsFunc(x.Name, func(c rune) bool { return c < 32 || c > 126 })
}

func (r *tester) update(id int, x api.Record) {
	r.t.Helper()
	want := api.OK
	old, exists := r.records[id]
	switch {
	case !isValid(x):
		want = api.ErrArg
	case !exists:
		want = api.ErrNone
	case x.Key != old.Key && r.hasKey(x.Key):
		want = api.ErrExists
	default:
		r.records[id] = x
	}
	if err := r.table.Update(id, x); err != want {
		r.t.Fatal("Update", id, x, err, want)
	}
}

func (r *tester) delete(id int) {
	r.t.Helper()
	want := api.OK
	if _, exists := r.records[id]; !exists {
		want = api.ErrNone
	}
	delete(r.records, id)
	if err := r.table.Delete(id); err != want {
		r.t.Fatal("Delete", id, err, want)
	}
}

// batch makes a batch, one after the other on a copy of the records.
func (r *tester) batch(deletes []int, inserts []api.Record) {
	r.t.Helper()
	err := r.batchError(deletes, inserts)
	var want []int
	if err == api.OK {
		for _, id := range deletes {
			delete(r.records, id)
		}
		for _, x := range inserts {
			r.records[r.next] = x
			want = append(want, r.next)
			r.next++
		}
	}
	if got, e := r.table.Batch(deletes, inserts); !slices.Equal(got, want) || e != err {
		r.t.Fatal("Batch", deletes, inserts, got, e, want, err)
	}
}

func (r *tester) batchError(deletes []int, inserts []api.Record) api.Errno {
	if slices.ContainsFunc(inserts, func(x api.Record) bool { return !isValid(x) }) {
		return api.ErrArg
	}
	for i, id := range deletes {
		if slices.Contains(deletes[:i], id) {
			return api.ErrTwice
		}
	}
	left := maps.Clone(r.records)
	for _, id := range deletes {
		if _, exists := left[id]; !exists {
			return api.ErrNone
		}
		delete(left, id)
	}
	keys := map[int]bool{}
	for _, x := range left {
		keys[x.Key] = true
	}
	for _, x := range inserts {
		if keys[x.Key] {
			return api.ErrExists
		}
		keys[x.Key] = true
	}
	if len(keys) > api.MaxList {
		return api.ErrFull
	}
	return api.OK
}

func (r *tester) check() {
	r.t.Helper()
	if r.table.Len() != len(r.records) || !slices.Equal(r.table.List(), r.ids()) || !r.table.Check() {
		r.t.Fatal(r.table.Len(), r.table.List(), r.ids(), r.table.Check())
	}
	for id := range r.next + 2 {
		x, exists := r.records[id]
		if got, err := r.table.Get(id); got != x || exists && err != api.OK || !exists && err != api.ErrNone {
			r.t.Fatal("Get", id, got, err, x)
		}
	}
}

func (r *tester) ask(from, to, x1, x2, y1, y2 int, part string) {
	r.t.Helper()
	keys := r.with(func(x api.Record) bool { return from <= x.Key && x.Key <= to })
	slices.SortFunc(keys, func(a, b int) int { return cmp.Compare(r.records[a].Key, r.records[b].Key) })
	if l, err := r.table.ByKey(from, to); !slices.Equal(l, keys) || err != api.OK {
		r.t.Fatal("ByKey", from, to, l, err, keys)
	}
	places := r.with(func(x api.Record) bool { return x1 <= x.X && x.X <= x2 && y1 <= x.Y && x.Y <= y2 })
	if l, err := r.table.ByPlace(x1, x2, y1, y2); !slices.Equal(l, places) || err != api.OK {
		r.t.Fatal("ByPlace", x1, x2, y1, y2, l, err, places)
	}
	sum := 0
	for _, id := range places {
		sum += r.records[id].W
	}
	if n, err := r.table.Weight(x1, x2, y1, y2); n != sum || err != api.OK {
		r.t.Fatal("Weight", x1, x2, y1, y2, n, err, sum)
	}
	names := r.with(func(x api.Record) bool { return strings.Contains(x.Name, part) })
	if l, err := r.table.ByName(part); !slices.Equal(l, names) || err != api.OK {
		r.t.Fatal("ByName", part, l, err, names)
	}
}

func (r *tester) askMany(n *numbers, spread int) {
	r.t.Helper()
	for range 4 {
		x := n.record(spread)
		r.ask(n.below(spread)-spread/2, n.below(spread)-spread/2, n.below(8)-1, n.below(8)-1, n.below(8)-1, n.below(8)-1, x.Name[:len(x.Name)/2])
	}
	r.ask(math.MinInt, math.MaxInt, math.MinInt, math.MaxInt, math.MinInt, math.MaxInt, "")
	r.ask(math.MaxInt, math.MinInt, math.MaxInt, math.MinInt, 0, 0, "a\nb")
	r.ask(0, math.MaxInt, 2, math.MaxInt, math.MinInt, 3, strings.Repeat("a", 41))
}

// P50.1 to P50.4, and P50.6: random changes.
func TestTables(t *testing.T) {
	for _, spread := range []int{10, 60, 2000} {
		n := numbers(spread)
		r := newTester(t)
		for round := range 700 {
			ids := r.ids()
			id := n.below(r.next+2) - 1
			if len(ids) > 0 && n.below(5) > 0 {
				id = ids[n.below(len(ids))]
			}
			switch n.below(7) {
			case 0, 1, 2:
				r.insert(n.record(spread))
			case 3, 4:
				x := n.record(spread)
				if old, exists := r.records[id]; exists && n.below(2) == 0 {
					x.Key = old.Key
				}
				r.update(id, x)
			case 5:
				if round%200 > 100 {
					r.delete(id)
				}
			default:
				r.randomBatch(&n, spread, ids)
			}
			if round%15 == 0 {
				r.check()
				r.askMany(&n, spread)
			}
		}
		r.check()
	}
}

func (r *tester) randomBatch(n *numbers, spread int, ids []int) {
	r.t.Helper()
	var deletes []int
	var inserts []api.Record
	for range n.below(4) {
		if len(ids) > 0 {
			deletes = append(deletes, ids[n.below(len(ids))])
		}
	}
	if n.below(8) == 0 {
		deletes = append(deletes, r.next)
	}
	for range n.below(4) {
		x := n.record(spread)
		if len(deletes) > 0 && n.below(2) == 0 {
			x.Key = r.records[deletes[0]].Key
		}
		inserts = append(inserts, x)
	}
	r.batch(deletes, inserts)
}

// As many records as there may be, with the longest names, and many at one place.
func TestFull(t *testing.T) {
	r := newTester(t)
	for i := range api.MaxList {
		name := strings.Repeat("abc", 12) + string(rune('A'+i/26%26)) + string(rune('A'+i%26)) + "xy"
		r.insert(api.Record{Key: 2 * i, X: i % 3, Y: i / 500, W: api.MaxKey, Name: name})
	}
	r.check()
	r.insert(api.Record{Key: 1})
	r.insert(api.Record{Key: 2})
	r.batch(nil, []api.Record{{Key: 1}})
	r.batch([]int{5}, []api.Record{{Key: 1}, {Key: 3}})
	r.batch([]int{5, 6}, []api.Record{{Key: 1, Name: "new"}, {Key: 3, Name: "newer"}})
	r.check()
	for _, part := range []string{"abcabc", "AAx", "Bxy", "cAA", "new", "xya", "ZZ", strings.Repeat("abc", 12) + "ABxy"} {
		r.ask(-5, 100, 0, 1, 0, 9, part)
	}
	n := numbers(3)
	for i := range 300 {
		x := n.record(3000)
		r.update(i*3, x)
		if i%50 == 0 {
			r.askMany(&n, 2000)
			r.check()
		}
	}
	for id := range 900 {
		r.delete(id)
	}
	r.check()
	r.askMany(&n, 2000)
}

func TestExample(t *testing.T) {
	r := newTester(t)
	r.insert(api.Record{Key: 5, X: 1, Y: 2, W: 3, Name: "ann"})
	r.insert(api.Record{Key: 4, X: 2, Y: 2, W: 1, Name: "anna"})
	if l, err := r.table.ByKey(0, 9); !slices.Equal(l, []int{1, 0}) || err != api.OK {
		t.Error(l, err)
	}
	if l, err := r.table.ByName("nn"); !slices.Equal(l, []int{0, 1}) || err != api.OK {
		t.Error(l, err)
	}
	if l, err := r.table.ByName("na"); !slices.Equal(l, []int{1}) || err != api.OK {
		t.Error(l, err)
	}
	if n, err := r.table.Weight(0, 5, 0, 5); n != 4 || err != api.OK {
		t.Error(n, err)
	}
}

// P50.5
func TestJoin(t *testing.T) {
	n := numbers(4)
	a, b := newTester(t), newTester(t)
	for range 80 {
		a.insert(n.record(100))
		b.insert(n.record(100))
		a.delete(n.below(60))
	}
	for _, p := range [][2]*tester{{a, b}, {b, a}, {a, a}, {a, newTester(t)}, {newTester(t), a}} {
		var want [][2]int
		for key := -60; key < 60; key++ {
			at := func(r *tester) []int { return r.with(func(x api.Record) bool { return x.Key == key }) }
			if l, k := at(p[0]), at(p[1]); len(l) > 0 && len(k) > 0 {
				want = append(want, [2]int{l[0], k[0]})
			}
		}
		if got, err := p[0].table.Join(p[1].table); !slices.Equal(got, want) || err != api.OK {
			t.Error(got, err, want)
		}
	}
	if l, err := a.table.Join(nil); l != nil || err != api.ErrArg {
		t.Error(l, err)
	}
	if l, err := a.table.Join(&table.Table{}); l != nil || err != api.ErrArg {
		t.Error(l, err)
	}
	a.check()
	b.check()
}

func invalid() []api.Record {
	return []api.Record{
		{Key: api.MaxKey + 1}, {Key: -api.MaxKey - 1}, {X: api.MaxKey + 1}, {X: -api.MaxKey - 1}, {Y: api.MaxKey + 1}, {Y: -api.MaxKey - 1}, {W: api.MaxKey + 1}, {W: -api.MaxKey - 1},
		{Name: strings.Repeat("a", 41)}, {Name: "a\x1f"}, {Name: "\x7f"}, {Name: "a\n"}, {Name: "\x80"}, {Name: "é"},
	}
}

func TestInvalid(t *testing.T) {
	r := newTester(t)
	extreme := api.Record{Key: api.MaxKey, X: -api.MaxKey, Y: api.MaxKey, W: -api.MaxKey, Name: strings.Repeat("~", 39) + " "}
	r.insert(extreme)
	r.insert(api.Record{Key: -api.MaxKey, W: api.MaxKey})
	for _, x := range append(invalid(), extreme, api.Record{}) {
		if table.Valid(x) != isValid(x) {
			t.Error(x)
		}
	}
	for _, x := range invalid() {
		r.insert(x)
		r.update(0, x)
		r.update(9, x)
		r.batch([]int{0, 0}, []api.Record{{}, x})
	}
	r.update(9, extreme)
	r.update(1, extreme)
	r.update(0, extreme)
	r.update(0, api.Record{Key: -api.MaxKey})
	r.batch([]int{0, 7, 0}, nil)
	r.batch([]int{0, 7}, []api.Record{extreme, extreme})
	r.batch([]int{0}, []api.Record{extreme, extreme})
	r.batch([]int{1}, []api.Record{extreme})
	r.batch(nil, nil)
	for _, id := range []int{-1, 2, 1<<63 - 1, -1 << 63} {
		r.delete(id)
		r.update(id, api.Record{})
	}
	r.check()
	n := numbers(2)
	r.askMany(&n, 30)
	r.ask(-api.MaxKey, api.MaxKey, -api.MaxKey, 0, 0, api.MaxKey, "~ ")
	r.ask(api.MaxKey, api.MaxKey, -api.MaxKey, -api.MaxKey, 0, 0, "~~")
	r.ask(-api.MaxKey-9, -api.MaxKey, 0, 0, 0, 0, " ")
	r.ask(api.MaxKey+1, api.MaxKey+5, 0, 0, 0, 0, " ~")
}

func TestSharing(t *testing.T) {
	r := newTester(t)
	l := []api.Record{{Key: 3, Name: "a"}, {Key: 1, Name: "b"}}
	deletes := []int{}
	r.batch(deletes, l)
	l[0] = api.Record{}
	clear(r.table.List())
	for _, f := range []func() ([]int, api.Errno){
		func() ([]int, api.Errno) { return r.table.ByKey(0, 9) }, func() ([]int, api.Errno) { return r.table.ByPlace(0, 9, 0, 9) }, func() ([]int, api.Errno) { return r.table.ByName("a") },
	} {
		x, _ := f()
		clear(x)
	}
	r.check()
	r.ask(0, 9, 0, 9, 0, 9, "a")
}

func TestNil(t *testing.T) {
	var x *table.Table
	for range 2 {
		if x.Len() != 0 || x.List() != nil || x.Check() {
			t.Error("values")
		}
		if id, err := x.Insert(invalid()[0]); id != 0 || err != api.ErrArg {
			t.Error(id, err)
		}
		if x.Update(0, api.Record{}) != api.ErrArg || x.Delete(0) != api.ErrArg {
			t.Error("changes")
		}
		if r, err := x.Get(0); r != (api.Record{}) || err != api.ErrArg {
			t.Error(r, err)
		}
		for i, f := range []func() ([]int, api.Errno){
			func() ([]int, api.Errno) { return x.ByKey(0, 9) }, func() ([]int, api.Errno) { return x.ByPlace(0, 9, 0, 9) }, func() ([]int, api.Errno) { return x.ByName("a") }, func() ([]int, api.Errno) { return x.Batch([]int{0, 0}, nil) },
		} {
			if l, err := f(); l != nil || err != api.ErrArg {
				t.Error(i, l, err)
			}
		}
		if n, err := x.Weight(0, 9, 0, 9); n != 0 || err != api.ErrArg {
			t.Error(n, err)
		}
		if l, err := x.Join(table.New()); l != nil || err != api.ErrArg {
			t.Error(l, err)
		}
		x = &table.Table{}
	}
}
