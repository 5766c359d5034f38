package pagefile_test

import (
	"bytes"
	"encoding/binary"
	"hash/fnv"
	"slices"
	"testing"

	"heartwood/api"
	"heartwood/pagefile"
)

// numbers yields numbers by a fixed rule.
type numbers int

func (n *numbers) below(limit int) int {
	*n = *n * 48271 % 2147483647
	return int(*n) % limit
}

func (n *numbers) bytes(size int) []byte {
	b := make([]byte, size)
	for i := range b {
		b[i] = byte(n.below(256))
	}
	return b
}

func sum(b []byte) uint32 {
	h := fnv.New32a()
	h.Write(b)
	return h.Sum32()
}

// record makes a record by its definition.
func record(pages []int, data [][]byte) []byte {
	b := binary.LittleEndian.AppendUint32(nil, uint32(len(pages)))
	for i, p := range pages {
		b = append(binary.LittleEndian.AppendUint32(b, uint32(p)), data[i]...)
	}
	return binary.LittleEndian.AppendUint32(b, sum(b))
}

func same(a, b api.Disk) bool {
	return a.Page == b.Page && bytes.Equal(a.Data, b.Data) && a.Synced == b.Synced && a.After == b.After
}

func isZero(d api.Disk) bool { return same(d, api.Disk{}) }

// tester has a disk, the ends of its records, and the bytes of its pages after each of them.
type tester struct {
	t     *testing.T
	disk  api.Disk
	ends  []int
	pages []map[int][]byte
}

func newTester(t *testing.T, page, after int) *tester {
	t.Helper()
	d, err := pagefile.Format(page, after)
	if err != api.OK || !same(d, api.Disk{Page: page, After: after}) {
		t.Fatal(d, err)
	}
	return &tester{t: t, disk: d, ends: []int{0}, pages: []map[int][]byte{{}}}
}

func (r *tester) end() int { return r.ends[len(r.ends)-1] }

// check checks what is told of the disk.
func (r *tester) check() {
	r.t.Helper()
	d := r.disk
	if !pagefile.Valid(d) {
		r.t.Fatal("not valid", d.Page, len(d.Data), d.Synced, d.After)
	}
	now := r.pages[len(r.pages)-1]
	count := 0
	for p := range now {
		count = max(count, p+1)
	}
	if n, err := pagefile.Pages(d); n != count || err != api.OK {
		r.t.Fatal("Pages", n, err, count)
	}
	if n, err := pagefile.Commits(d); n != len(r.ends)-1 || err != api.OK {
		r.t.Fatal("Commits", n, err, len(r.ends)-1)
	}
	for p := -1; p <= count; p++ {
		want, wantErr := now[p], api.OK
		if p < 0 || p == count {
			wantErr = api.ErrRange
		} else if want == nil {
			want = make([]byte, d.Page)
		}
		if b, err := pagefile.Get(d, p); !bytes.Equal(b, want) || err != wantErr {
			r.t.Fatal("Get", p, b, err, want)
		}
	}
}

func (r *tester) commit(pages []int, data [][]byte) {
	r.t.Helper()
	b := record(pages, data)
	before := clone(r.disk)
	want, wantErr := clone(r.disk), api.OK
	switch {
	case r.disk.After == 0:
		wantErr = api.ErrCrash
	case r.disk.After == -1 || r.disk.After >= len(b):
		want.Data = append(want.Data[:r.end()], b...)
		want.Synced = len(want.Data)
		if want.After > 0 {
			want.After -= len(b)
		}
		next := map[int][]byte{}
		for p, x := range r.pages[len(r.pages)-1] {
			next[p] = x
		}
		for i, p := range pages {
			next[p] = slices.Clone(data[i])
		}
		r.ends, r.pages = append(r.ends, len(want.Data)), append(r.pages, next)
	default:
		want.Data = append(want.Data[:r.end()], b[:want.After]...)
		want.Synced, want.After, wantErr = r.end(), 0, api.ErrCrash
	}
	got, err := pagefile.Commit(r.disk, pages, data)
	if err != wantErr || !same(got, want) || !same(r.disk, before) {
		r.t.Fatal("Commit", pages, err, wantErr, got, want)
	}
	clear(r.disk.Data)
	r.disk = got
	r.check()
}

func clone(d api.Disk) api.Disk {
	d.Data = slices.Clone(d.Data)
	return d
}

func (r *tester) randomCommit(n *numbers) {
	r.t.Helper()
	var pages []int
	var data [][]byte
	for range n.below(4) {
		if p := n.below(8); !slices.Contains(pages, p) {
			pages, data = append(pages, p), append(data, n.bytes(r.disk.Page))
		}
	}
	r.commit(pages, data)
}

// restart goes on after a crash that keeps some bytes, and what is open then.
func (r *tester) restart(keep int) {
	r.t.Helper()
	d, err := pagefile.Crash(r.disk, keep)
	want := api.Disk{Page: r.disk.Page, Data: r.disk.Data[:r.disk.Synced+keep], Synced: r.disk.Synced, After: -1}
	if err != api.OK || !same(d, want) {
		r.t.Fatal("Crash", keep, d, err, want)
	}
	r.disk = d
	r.check()
	r.open()
}

func (r *tester) open() {
	r.t.Helper()
	d, err := pagefile.Open(r.disk)
	want := api.Disk{Page: r.disk.Page, Data: r.disk.Data[:r.end()], Synced: r.end(), After: r.disk.After}
	if err != api.OK || !same(d, want) {
		r.t.Fatal("Open", d, err, want)
	}
	r.disk = d
	r.check()
}

func (r *tester) checkpoint() {
	r.t.Helper()
	now := r.pages[len(r.pages)-1]
	count, _ := pagefile.Pages(r.disk)
	var pages []int
	var data [][]byte
	for p := range count {
		b, _ := pagefile.Get(r.disk, p)
		pages, data = append(pages, p), append(data, b)
	}
	var b []byte
	if count > 0 {
		b = record(pages, data)
	}
	want, wantErr := api.Disk{Page: r.disk.Page, Data: b, Synced: len(b), After: r.disk.After}, api.OK
	if r.disk.After == 0 || r.disk.After != -1 && r.disk.After < len(b) {
		want, wantErr = clone(r.disk), api.ErrCrash
		want.After = 0
	} else {
		if want.After > 0 {
			want.After -= len(b)
		}
		full := map[int][]byte{}
		for p := range count {
			full[p] = data[p]
		}
		r.ends, r.pages = []int{0}, []map[int][]byte{{}}
		if count > 0 {
			r.ends, r.pages = append(r.ends, len(b)), append(r.pages, full)
		}
	}
	d, err := pagefile.Checkpoint(r.disk)
	if err != wantErr || !same(d, want) {
		r.t.Fatal("Checkpoint", d, err, want, wantErr, len(now))
	}
	r.disk = d
	r.check()
}

// P52.1 to P52.6: random commits, crashes, and checkpoints.
func TestDisks(t *testing.T) {
	for seed := 1; seed <= 60; seed++ {
		n := numbers(seed)
		r := newTester(t, []int{8, 9, 32, 256}[n.below(4)], n.below(2000)-1)
		if seed%3 == 0 {
			r = newTester(t, 8, -1)
		}
		r.check()
		for range 25 {
			switch n.below(9) {
			case 0:
				r.open()
			case 1:
				r.checkpoint()
			case 2:
				if r.disk.After == 0 {
					r.restart(n.below(len(r.disk.Data) - r.disk.Synced + 1))
					r.disk.After = n.below(400)
				}
			default:
				r.randomCommit(&n)
			}
		}
	}
}

// A crash at each byte of a record, keeping each number of bytes, leaves all commits but the last one.
func TestCrashes(t *testing.T) {
	n := numbers(2)
	data := [][]byte{n.bytes(8), n.bytes(8)}
	size := len(record([]int{2, 0}, data))
	for after := range size + 2 {
		r := newTester(t, 8, size+after)
		r.commit([]int{2, 0}, data)
		r.commit([]int{0, 1}, data)
		crashed := r.disk
		for keep := 0; keep <= len(crashed.Data)-crashed.Synced; keep++ {
			r.disk = clone(crashed)
			r.restart(keep)
			r.commit([]int{1}, data[:1])
			r.ends, r.pages = r.ends[:len(r.ends)-1], r.pages[:len(r.pages)-1]
		}
		for _, keep := range []int{-1, len(crashed.Data) - crashed.Synced + 1, 1 << 62} {
			if d, err := pagefile.Crash(crashed, keep); !isZero(d) || err != api.ErrRange {
				t.Error(keep, err)
			}
		}
	}
}

func TestExample(t *testing.T) {
	d, _ := pagefile.Format(8, 20)
	d, err := pagefile.Commit(d, []int{0}, [][]byte{make([]byte, 8)})
	if len(d.Data) != 20 || err != api.OK || d.After != 0 {
		t.Error(d, err)
	}
	d, err = pagefile.Commit(d, []int{0}, [][]byte{make([]byte, 8)})
	if len(d.Data) != 20 || err != api.ErrCrash {
		t.Error(d, err)
	}
	d, _ = pagefile.Format(8, 19)
	d, err = pagefile.Commit(d, []int{0}, [][]byte{make([]byte, 8)})
	if len(d.Data) != 19 || d.Synced != 0 || err != api.ErrCrash {
		t.Error(d, err)
	}
	d, _ = pagefile.Crash(d, 19)
	if n, err := pagefile.Commits(d); n != 0 || err != api.OK {
		t.Error(n, err)
	}
}

func TestSum(t *testing.T) {
	for s, want := range map[string]int{"": 2166136261, "a": 3826002220} {
		if n, err := pagefile.Sum([]byte(s)); n != want || err != api.OK {
			t.Error(s, n, err)
		}
	}
	n := numbers(5)
	for size := range 200 {
		b := n.bytes(size)
		if got, err := pagefile.Sum(b); got != int(sum(b)) || err != api.OK {
			t.Error(size, got, err)
		}
	}
	if got, err := pagefile.Sum(make([]byte, api.MaxBytes)); got != int(sum(make([]byte, api.MaxBytes))) || err != api.OK {
		t.Error(got, err)
	}
	if got, err := pagefile.Sum(make([]byte, api.MaxBytes+1)); got != 0 || err != api.ErrFull {
		t.Error(got, err)
	}
}

// Any byte of a record that is changed makes it torn, and what comes after it, but for numbers that may mean another
// record.
func TestTorn(t *testing.T) {
	n := numbers(7)
	r := newTester(t, 16, -1)
	for range 3 {
		r.commit([]int{3, 1}, [][]byte{n.bytes(16), n.bytes(16)})
	}
	good := clone(r.disk)
	for i := range good.Data {
		for _, change := range []byte{1, 128, 255} {
			d := clone(good)
			d.Data[i] ^= change
			d.Synced = 0
			want := i / r.ends[1]
			if got, err := pagefile.Commits(d); got != want || err != api.OK {
				t.Fatal(i, change, got, err, want)
			}
		}
	}
	// Records that are wrong although their sums are right.
	page := make([]byte, 8)
	twice := record([]int{1, 1}, [][]byte{page, page})
	great := record([]int{api.MaxList}, [][]byte{page})
	huge := binary.LittleEndian.AppendUint32([]byte{255, 255, 255, 255}, sum([]byte{255, 255, 255, 255}))
	for i, b := range [][]byte{twice, great, huge, {0}, {0, 0, 0, 0}, page} {
		d := api.Disk{Page: 8, Data: append(record(nil, nil), b...), After: -1}
		if got, err := pagefile.Commits(d); got != 1 || err != api.OK {
			t.Error(i, got, err)
		}
		if got, err := pagefile.Open(d); len(got.Data) != 8 || got.Synced != 8 || err != api.OK {
			t.Error(i, got, err)
		}
	}
}

// As many bytes as there may be, exactly; the greatest After; and a file of one page.
func TestExactLimits(t *testing.T) {
	empty := record(nil, nil)
	most := api.MaxBytes / len(empty)
	full := bytes.Repeat(empty, most)
	d := api.Disk{Page: 8, Data: full[len(empty):], After: api.MaxBytes}
	if !pagefile.Valid(d) {
		t.Fatal("not valid")
	}
	d, err := pagefile.Commit(d, nil, nil)
	if len(d.Data) != api.MaxBytes || d.After != api.MaxBytes-len(empty) || err != api.OK {
		t.Error(len(d.Data), d.After, err)
	}
	if n, err := pagefile.Commits(d); n != most || err != api.OK {
		t.Error(n, err)
	}
	if x, err := pagefile.Commit(d, nil, nil); !isZero(x) || err != api.ErrFull {
		t.Error(err)
	}
	if d, err := pagefile.Checkpoint(d); len(d.Data) != 0 || d.Synced != 0 || err != api.OK {
		t.Error(len(d.Data), err)
	}
	newTester(t, 8, api.MaxBytes).check()
	for _, after := range []int{-1, 20, 19} {
		r := newTester(t, 8, -1)
		r.commit([]int{0}, [][]byte{{1, 2, 3, 4, 5, 6, 7, 8}})
		r.commit([]int{0}, [][]byte{{8, 7, 6, 5, 4, 3, 2, 1}})
		r.disk.After = after
		r.checkpoint()
		r.checkpoint()
	}
}

// All pages, and bytes up to the limit.
func TestLimits(t *testing.T) {
	var pages []int
	var data [][]byte
	n := numbers(8)
	for p := range api.MaxList {
		pages, data = append(pages, p), append(data, n.bytes(256))
	}
	slices.Reverse(pages)
	r := newTester(t, 256, -1)
	size := len(record(pages, data))
	for (len(r.ends))*size <= api.MaxBytes {
		r.disk, _ = pagefile.Commit(r.disk, pages, data)
		r.ends = append(r.ends, r.end()+size)
	}
	if n, err := pagefile.Pages(r.disk); n != api.MaxList || err != api.OK {
		t.Fatal(n, err)
	}
	if d, err := pagefile.Commit(r.disk, pages, data); !isZero(d) || err != api.ErrFull {
		t.Error(err)
	}
	rest := api.MaxBytes - len(r.disk.Data)
	for rest >= 20+8+260 {
		r.disk, _ = pagefile.Commit(r.disk, pages[:1], data[:1])
		rest -= 268
	}
	for rest >= 16 {
		r.disk, _ = pagefile.Commit(r.disk, nil, nil)
		rest -= 8
	}
	for _, after := range []int{-1, 5, 0} {
		r.disk.After = after
		d, err := pagefile.Commit(r.disk, pages[:1], data[:1])
		if after != 0 && (!isZero(d) || err != api.ErrFull) || after == 0 && (!same(d, r.disk) || err != api.ErrCrash) {
			t.Error(after, err, len(r.disk.Data))
		}
	}
	r.disk.After = -1
	d, err := pagefile.Checkpoint(r.disk)
	if err != api.OK || len(d.Data) != size {
		t.Error(err, len(d.Data))
	}
	for p := range api.MaxList {
		if b, err := pagefile.Get(d, pages[p]); !bytes.Equal(b, data[p]) || err != api.OK {
			t.Fatal(p, err)
		}
	}
}

func TestErrors(t *testing.T) {
	for _, x := range [][2]int{{7, 0}, {257, 0}, {0, 0}, {-8, -1}, {8, -2}, {8, api.MaxBytes + 1}, {1 << 62, 0}} {
		if d, err := pagefile.Format(x[0], x[1]); !isZero(d) || err != api.ErrRange {
			t.Error(x, d, err)
		}
	}
	good := api.Disk{Page: 8, Data: append(record([]int{0}, [][]byte{make([]byte, 8)}), 1, 2, 3), Synced: 20, After: -1}
	if !pagefile.Valid(good) {
		t.Fatal(good)
	}
	for _, synced := range []int{0, 7, 20} {
		d := clone(good)
		if d.Synced = synced; !pagefile.Valid(d) {
			t.Error(synced)
		}
	}
	bad := []func(d *api.Disk){
		func(d *api.Disk) { d.Page = 7 }, func(d *api.Disk) { d.Page = 257 }, func(d *api.Disk) { d.Synced = -1 }, func(d *api.Disk) { d.Synced = 21 }, func(d *api.Disk) { d.After = -2 }, func(d *api.Disk) { d.After = api.MaxBytes + 1 }, func(d *api.Disk) { d.Data = make([]byte, api.MaxBytes+1) }, func(d *api.Disk) { d.Data[19]++ },
	}
	for i, f := range bad {
		d := clone(good)
		if f(&d); pagefile.Valid(d) {
			t.Error(i)
		}
		if x, err := pagefile.Open(d); !isZero(x) || err != api.ErrArg {
			t.Error(i, err)
		}
		if x, err := pagefile.Commit(d, []int{0}, nil); !isZero(x) || err != api.ErrArg {
			t.Error(i, err)
		}
		if x, err := pagefile.Crash(d, -1); !isZero(x) || err != api.ErrArg {
			t.Error(i, err)
		}
		if x, err := pagefile.Checkpoint(d); !isZero(x) || err != api.ErrArg {
			t.Error(i, err)
		}
		if n, err := pagefile.Pages(d); n != 0 || err != api.ErrArg {
			t.Error(i, n, err)
		}
		if n, err := pagefile.Commits(d); n != 0 || err != api.ErrArg {
			t.Error(i, n, err)
		}
		if b, err := pagefile.Get(d, -1); b != nil || err != api.ErrArg {
			t.Error(i, b, err)
		}
	}
	page := make([]byte, 8)
	many := make([]int, api.MaxList+1)
	for _, after := range []int{-1, 5, 0} {
		d := clone(good)
		d.After = after
		for i, x := range []struct {
			pages []int
			data  [][]byte
			want  api.Errno
		}{
			{[]int{-1}, nil, api.ErrSize}, {nil, [][]byte{page}, api.ErrSize}, {[]int{-1, 0}, [][]byte{page, page[1:]}, api.ErrSize}, {[]int{0}, [][]byte{append(page, 0)}, api.ErrSize}, {many, slices.Repeat([][]byte{page}, len(many)), api.ErrFull}, {append(many, -1), slices.Repeat([][]byte{page}, len(many)+1), api.ErrFull},
			{[]int{0, 0, -1}, [][]byte{page, page, page}, api.ErrRange}, {[]int{api.MaxList}, [][]byte{page}, api.ErrRange}, {[]int{5, 5}, [][]byte{page, page}, api.ErrTwice},
		} {
			if got, err := pagefile.Commit(d, x.pages, x.data); !isZero(got) || err != x.want {
				t.Error(i, err, x.want)
			}
		}
	}
}
