package kinetic_test

import (
	"cmp"
	"math/big"
	"slices"
	"testing"

	"heartwood/api"
	"heartwood/kinetic"
)

// numbers yields numbers by a fixed rule.
type numbers int

func (n *numbers) below(limit int) int {
	*n = *n * 48271 % 2147483647
	return int(*n) % limit
}

func (n *numbers) motions(size, spread, speeds int) []api.Motion {
	var l []api.Motion
	for range size {
		l = append(l, api.Motion{At: n.below(2*spread+1) - spread, Speed: n.below(2*speeds+1) - speeds})
	}
	return l
}

func frac(num, den int) api.Frac {
	r := big.NewRat(int64(num), int64(den))
	return api.Frac{Num: int(r.Num().Int64()), Den: int(r.Denom().Int64())}
}

func rat(f api.Frac) *big.Rat { return big.NewRat(int64(f.Num), int64(f.Den)) }

func position(m api.Motion, t api.Frac) *big.Rat {
	p := new(big.Rat).Mul(big.NewRat(int64(m.Speed), 1), rat(t))
	return p.Add(p, big.NewRat(int64(m.At), 1))
}

// order finds the order by its definition.
func order(l []api.Motion, t api.Frac) []int {
	var indices []int
	for i := range l {
		indices = append(indices, i)
	}
	slices.SortFunc(indices, func(i, j int) int {
		return cmp.Or(position(l[i], t).Cmp(position(l[j], t)), cmp.Compare(l[i].Speed, l[j].Speed), cmp.Compare(i, j))
	})
	return indices
}

// meet returns when two motions meet, and whether they do after t.
func meet(a, b api.Motion, t api.Frac) (api.Frac, bool) {
	if a.Speed == b.Speed {
		return api.Frac{}, false
	}
	at := frac(b.At-a.At, a.Speed-b.Speed)
	return at, rat(at).Cmp(rat(t)) > 0
}

// swaps finds the swaps between two times by their definition.
func swaps(l []api.Motion, from, to api.Frac) []api.Swap {
	before, after := order(l, from), order(l, to)
	var all []api.Swap
	for i, a := range before {
		for _, b := range before[i+1:] {
			if slices.Index(after, a) > slices.Index(after, b) {
				t, _ := meet(l[a], l[b], from)
				all = append(all, api.Swap{T: t, A: a, B: b})
			}
		}
	}
	slices.SortFunc(all, func(a, b api.Swap) int {
		return cmp.Or(rat(a.T).Cmp(rat(b.T)), cmp.Compare(a.A, b.A), cmp.Compare(a.B, b.B))
	})
	return all
}

func certificates(l []api.Motion, t api.Frac) []api.Swap {
	var all []api.Swap
	now := order(l, t)
	for i := 1; i < len(now); i++ {
		if at, ok := meet(l[now[i-1]], l[now[i]], t); ok {
			all = append(all, api.Swap{T: at, A: now[i-1], B: now[i]})
		}
	}
	return all
}

func newList(t *testing.T, l []api.Motion) *kinetic.List {
	t.Helper()
	k, err := kinetic.NewList(l)
	if err != api.OK || k == nil {
		t.Fatal(err)
	}
	checkList(t, k, l, frac(0, 1))
	return k
}

// checkList compares all that is told of a list.
func checkList(t *testing.T, k *kinetic.List, l []api.Motion, now api.Frac) {
	t.Helper()
	if k.Now() != now || !slices.Equal(k.Motions(), l) || !slices.Equal(k.Order(), order(l, now)) {
		t.Fatal(l, now, k.Now(), k.Motions(), k.Order(), order(l, now))
	}
	want := certificates(l, now)
	if got := k.Certificates(); !slices.Equal(got, want) {
		t.Fatal(l, now, got, want)
	}
	next, err := k.Next()
	if len(want) == 0 {
		if next != (api.Swap{}) || err != api.ErrNone {
			t.Fatal(l, now, next, err)
		}
		return
	}
	first := want[0]
	for _, s := range want {
		if rat(s.T).Cmp(rat(first.T)) < 0 {
			first = s
		}
	}
	if next != first || err != api.OK {
		t.Fatal(l, now, next, err, first)
	}
}

// P34.1
func TestMotions(t *testing.T) {
	n := numbers(3)
	times := []api.Frac{frac(0, 1), frac(1, 1), frac(5, 2), frac(1, 3), frac(7, 9), frac(20, 1), frac(api.MaxFrac, 1), frac(1, api.MaxFrac), frac(api.MaxFrac, api.MaxFrac-1)}
	for range 300 {
		l := n.motions(6, 10, 4)
		if n.below(3) == 0 {
			l = n.motions(6, api.MaxKey, 1000)
		}
		for _, at := range times {
			got, err := kinetic.Order(l, at)
			if want := order(l, at); err != api.OK || !slices.Equal(got, want) {
				t.Fatal(l, at, got, err, want)
			}
			for _, m := range l {
				p, err := kinetic.At(m, at)
				want := position(m, at)
				fits := want.Denom().Cmp(big.NewInt(api.MaxFrac)) <= 0 && new(big.Int).Abs(want.Num()).Cmp(big.NewInt(api.MaxFrac)) <= 0
				if fits && (err != api.OK || rat(p).Cmp(want) != 0) || !fits && (err != api.ErrBig || p != api.Frac{}) {
					t.Fatal(m, at, p, err, want)
				}
			}
			for _, b := range l[1:] {
				want, ok := meet(l[0], b, at)
				got, err := kinetic.Meet(l[0], b, at)
				if ok && (got != want || err != api.OK) || !ok && (got != api.Frac{} || err != api.ErrNone) {
					t.Fatal(l[0], b, at, got, err, want, ok)
				}
			}
		}
	}
	far := []api.Motion{{At: -api.MaxKey, Speed: 1000}, {At: api.MaxKey, Speed: 999}}
	if at, err := kinetic.Meet(far[0], far[1], frac(2*api.MaxKey-1, 1)); at != frac(2*api.MaxKey, 1) || err != api.OK {
		t.Error(at, err)
	}
	if at, err := kinetic.Meet(far[0], far[1], frac(2*api.MaxKey, 1)); at != (api.Frac{}) || err != api.ErrNone {
		t.Error(at, err)
	}
}

func wrongMotions() []api.Motion {
	return []api.Motion{{At: api.MaxKey + 1}, {At: -api.MaxKey - 1}, {Speed: 1001}, {Speed: -1001}, {At: 1 << 62, Speed: -1 << 63}}
}

func wrongTimes() []api.Frac {
	return []api.Frac{{}, {Num: -1, Den: 1}, {Num: 2, Den: 2}, {Num: 0, Den: 2}, {Num: 1, Den: -1}, {Num: api.MaxFrac + 1, Den: 1}, {Num: 1, Den: api.MaxFrac + 1}}
}

func TestErrors(t *testing.T) {
	zero := frac(0, 1)
	none := func(what string, err api.Errno) {
		t.Helper()
		if err != api.ErrArg {
			t.Error(what, err)
		}
	}
	for _, m := range wrongMotions() {
		at, err := kinetic.At(m, zero)
		none("At", err)
		meet1, err := kinetic.Meet(m, api.Motion{}, zero)
		none("Meet", err)
		meet2, err := kinetic.Meet(api.Motion{}, m, zero)
		none("Meet", err)
		if at != meet1 || at != meet2 || at != (api.Frac{}) {
			t.Error(at, meet1, meet2)
		}
		l := append(make([]api.Motion, api.MaxArgs), m)
		indices, err := kinetic.Order(l, zero)
		none("Order", err)
		k, err := kinetic.NewList(l)
		none("NewList", err)
		tournament, err := kinetic.NewTournament(l)
		none("NewTournament", err)
		if indices != nil || k != nil || tournament != nil {
			t.Error(indices)
		}
	}
	for _, at := range wrongTimes() {
		_, err := kinetic.At(api.Motion{}, at)
		none("At", err)
		_, err = kinetic.Meet(api.Motion{}, api.Motion{}, at)
		none("Meet", err)
		_, err = kinetic.Order(make([]api.Motion, api.MaxArgs+1), at)
		none("Order", err)
		k := newList(t, []api.Motion{{At: 1, Speed: 2}, {At: 2}})
		l, err := k.Advance(at)
		none("Advance", err)
		tournament, _ := kinetic.NewTournament([]api.Motion{{}, {}})
		winner, err := tournament.Advance(at)
		none("Advance", err)
		if l != nil || winner != 0 {
			t.Error(l, winner)
		}
		checkList(t, k, []api.Motion{{At: 1, Speed: 2}, {At: 2}}, zero)
	}
	many := make([]api.Motion, api.MaxArgs+1)
	if l, err := kinetic.Order(many, zero); l != nil || err != api.ErrFull {
		t.Error(l, err)
	}
	if k, err := kinetic.NewList(many); k != nil || err != api.ErrFull {
		t.Error(err)
	}
	if k, err := kinetic.NewTournament(many); k != nil || err != api.ErrFull {
		t.Error(err)
	}
	if k, err := kinetic.NewTournament(nil); k != nil || err != api.ErrEmpty {
		t.Error(err)
	}
	newList(t, nil)
	newList(t, many[1:])
	if l, err := kinetic.Order(many[1:], zero); len(l) != api.MaxArgs || err != api.OK {
		t.Error(l, err)
	}
	if k, err := kinetic.NewTournament(many[1:]); k == nil || err != api.OK {
		t.Error(err)
	}
}

// P34.2, P34.3, and P34.6: lists that advance by many and by few steps, with many points at one place.
func TestLists(t *testing.T) {
	n := numbers(8)
	for round := range 150 {
		l := n.motions(n.below(12), 1+n.below(12), 1+n.below(4))
		if round%10 == 0 {
			l = n.motions(40, 3, 3)
		}
		k, direct := newList(t, l), newList(t, l)
		now := frac(0, 1)
		var all []api.Swap
		for range 6 {
			t2 := frac(now.Num*6+n.below(8)*now.Den, now.Den*6)
			if next, err := k.Next(); err == api.OK && n.below(2) == 0 {
				t2 = next.T
			}
			want := swaps(l, now, t2)
			got, err := k.Advance(t2)
			if err != api.OK || !slices.Equal(got, want) {
				t.Fatal(l, now, t2, got, err, want)
			}
			now = t2
			all = append(all, got...)
			checkList(t, k, l, now)
		}
		if got, err := direct.Advance(now); err != api.OK || !slices.Equal(got, all) {
			t.Fatal(l, now, got, err, all)
		}
		if now.Num > 0 {
			earlier := frac(now.Num*2-1, now.Den*2)
			if got, err := k.Advance(earlier); got != nil || err != api.ErrTime {
				t.Fatal(got, err)
			}
			checkList(t, k, l, now)
		}
		last := frac(1000, 1)
		want := swaps(l, now, last)
		if got, err := k.Advance(last); err != api.OK || !slices.Equal(got, want) {
			t.Fatal(l, now, got, err, want)
		}
		checkList(t, k, l, last)
	}
}

// The longest lists, with all points at one place, and with points that all pass all others.
func TestLongLists(t *testing.T) {
	var same, crossing []api.Motion
	for i := range api.MaxArgs {
		same = append(same, api.Motion{At: 7 * (i - 20), Speed: -(i - 20)})
		crossing = append(crossing, api.Motion{At: i * i, Speed: -15 * i})
	}
	for _, l := range [][]api.Motion{same, crossing} {
		k := newList(t, l)
		for _, at := range []api.Frac{frac(3, 2), frac(7, 1), frac(1<<20, 1)} {
			want := swaps(l, k.Now(), at)
			if got, err := k.Advance(at); err != api.OK || !slices.Equal(got, want) {
				t.Fatal(at, len(got), err, len(want))
			}
			checkList(t, k, l, at)
		}
		if len(k.Certificates()) != 0 {
			t.Error(k.Certificates())
		}
	}
}

func TestExample(t *testing.T) {
	k := newList(t, []api.Motion{{At: 0, Speed: 2}, {At: 5, Speed: 1}, {At: 4}})
	if l := k.Order(); !slices.Equal(l, []int{0, 2, 1}) {
		t.Error(l)
	}
	if l := k.Certificates(); !slices.Equal(l, []api.Swap{{T: frac(2, 1), A: 0, B: 2}}) {
		t.Error(l)
	}
	l, err := k.Advance(frac(5, 1))
	if err != api.OK || !slices.Equal(l, []api.Swap{{T: frac(2, 1), A: 0, B: 2}, {T: frac(5, 1), A: 0, B: 1}}) {
		t.Error(l, err)
	}
	if l := k.Order(); !slices.Equal(l, []int{2, 1, 0}) {
		t.Error(l)
	}
}

// P34.4
func TestChange(t *testing.T) {
	n := numbers(6)
	for range 100 {
		l := n.motions(1+n.below(8), 8, 6)
		k := newList(t, l)
		now := frac(0, 1)
		for range 12 {
			i, speed := n.below(len(l)), n.below(13)-6
			jump := new(big.Rat).Mul(rat(now), big.NewRat(int64(l[i].Speed-speed), 1))
			if err := k.Change(i, speed); jump.IsInt() {
				l[i] = api.Motion{At: l[i].At + int(jump.Num().Int64()), Speed: speed}
				if err != api.OK {
					t.Fatal(l, now, i, speed, err)
				}
			} else if err != api.ErrShape {
				t.Fatal(l, now, i, speed, err)
			}
			checkList(t, k, l, now)
			next := frac(now.Num*3+n.below(7)*now.Den, now.Den*3)
			want := swaps(l, now, next)
			got, err := k.Advance(next)
			if err != api.OK || !slices.Equal(got, want) {
				t.Fatal(l, now, next, got, err, want)
			}
			now = next
			checkList(t, k, l, now)
		}
	}
}

func TestChangeErrors(t *testing.T) {
	l := []api.Motion{{At: api.MaxKey, Speed: 1}, {At: -api.MaxKey, Speed: 3}, {At: 5, Speed: 1000}}
	k := newList(t, l)
	k.Advance(frac(1, 2))
	for _, c := range []struct {
		i, speed int
		want     api.Errno
	}{
		{-1, 0, api.ErrRange}, {3, 0, api.ErrRange}, {3, 5000, api.ErrRange}, {0, 1001, api.ErrRange}, {0, -1001, api.ErrRange},
		{0, 0, api.ErrShape}, {1, 4, api.ErrShape}, {0, -1, api.ErrBig}, {1, 5, api.ErrBig}, {2, 999, api.ErrShape},
		{0, 1 << 62, api.ErrRange}, {0, -1 << 63, api.ErrRange},
	} {
		if err := k.Change(c.i, c.speed); err != c.want {
			t.Error(c, err)
		}
		checkList(t, k, l, frac(1, 2))
	}
	if err := k.Change(2, -1000); err != api.OK || k.Motions()[2] != (api.Motion{At: 1005, Speed: -1000}) {
		t.Error(err, k.Motions())
	}
	if err := k.Change(0, 3); err != api.OK || k.Motions()[0] != (api.Motion{At: api.MaxKey - 1, Speed: 3}) {
		t.Error(err, k.Motions())
	}
}

// P34.5: against the last point in the order at many times.
func TestTournaments(t *testing.T) {
	n := numbers(4)
	for round := range 200 {
		l := n.motions(1+n.below(10), 12, 5)
		if round%100 == 0 {
			l = n.motions(api.MaxArgs, 2000, 1000)
		}
		k, err := kinetic.NewTournament(l)
		if err != api.OK || k == nil {
			t.Fatal(err)
		}
		winner := func(at api.Frac) int { o := order(l, at); return o[len(o)-1] }
		if k.Winner() != winner(frac(0, 1)) || k.Events() != 0 {
			t.Fatal(l, k.Winner(), k.Events())
		}
		now := frac(0, 1)
		for range 6 {
			next := frac(now.Num*4+n.below(9)*now.Den, now.Den*4)
			if got, err := k.Advance(next); got != winner(next) || err != api.OK || k.Winner() != got {
				t.Fatal(l, next, got, err)
			}
			now = next
			if got := k.Events(); got != events(l, winner, now) {
				t.Fatal(l, now, got, events(l, winner, now))
			}
		}
		if now.Num > 0 {
			before := k.Events()
			if got, err := k.Advance(frac(0, 1)); got != 0 || err != api.ErrTime || k.Winner() != winner(now) || k.Events() != before {
				t.Fatal(got, err)
			}
		}
	}
}

// events counts the changes of the winner at all times at which points meet.
func events(l []api.Motion, winner func(api.Frac) int, now api.Frac) int {
	zero := frac(0, 1)
	times := []api.Frac{zero}
	for i, a := range l {
		for _, b := range l[i+1:] {
			if at, ok := meet(a, b, zero); ok && rat(at).Cmp(rat(now)) <= 0 {
				times = append(times, at)
			}
		}
	}
	slices.SortFunc(times, func(a, b api.Frac) int { return rat(a).Cmp(rat(b)) })
	times = slices.Compact(times)
	count := 0
	if len(times) > 200 {
		return countOf(l, times, winner)
	}
	for i := 1; i < len(times); i++ {
		if winner(times[i]) != winner(times[i-1]) {
			count++
		}
	}
	return count
}

// countOf does the same for many times, by halves of them: a winner that is the same at both ends is the same between
// them, because what was passed never comes back.
func countOf(l []api.Motion, times []api.Frac, winner func(api.Frac) int) int {
	first, last := winner(times[0]), winner(times[len(times)-1])
	switch {
	case first == last:
		return 0
	case len(times) == 2:
		return 1
	}
	middle := len(times) / 2
	return countOf(l, times[:middle+1], winner) + countOf(l, times[middle:], winner)
}

func TestSharing(t *testing.T) {
	l := []api.Motion{{At: 1, Speed: 2}, {At: 2}, {At: 5}}
	before := slices.Clone(l)
	k := newList(t, l)
	tournament, _ := kinetic.NewTournament(l)
	clear(l)
	clear(k.Order())
	clear(k.Motions())
	clear(k.Certificates())
	checkList(t, k, before, frac(0, 1))
	if n, err := tournament.Advance(frac(9, 1)); n != 0 || err != api.OK || tournament.Events() != 1 {
		t.Error(n, err)
	}
	swapped, _ := k.Advance(frac(1, 2))
	clear(swapped)
	checkList(t, k, before, frac(1, 2))
}

func TestNil(t *testing.T) {
	var k *kinetic.List
	if k.Now() != (api.Frac{}) || k.Order() != nil || k.Certificates() != nil || k.Motions() != nil {
		t.Error("values")
	}
	if s, err := k.Next(); s != (api.Swap{}) || err != api.ErrArg {
		t.Error(s, err)
	}
	if l, err := k.Advance(frac(1, 1)); l != nil || err != api.ErrArg {
		t.Error(l, err)
	}
	if err := k.Change(0, 0); err != api.ErrArg {
		t.Error(err)
	}
	var w *kinetic.Tournament
	if n, err := w.Advance(frac(1, 1)); n != 0 || err != api.ErrArg || w.Winner() != 0 || w.Events() != 0 {
		t.Error(n, err)
	}
	k, w = &kinetic.List{}, &kinetic.Tournament{}
	if l, err := k.Advance(frac(1, 1)); len(l) != 0 || err != api.OK {
		t.Error(l, err)
	}
	if n, err := w.Advance(frac(1, 1)); n != 0 || err != api.ErrArg {
		t.Error(n, err)
	}
}
