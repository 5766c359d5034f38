package serializer_test

import (
	"bytes"
	"slices"
	"testing"

	"heartwood/api"
	"heartwood/eval"
	"heartwood/heap"
	"heartwood/library"
	"heartwood/pagefile"
	"heartwood/parser"
	"heartwood/serializer"
)

// numbers yields numbers by a fixed rule.
type numbers int

func (n *numbers) below(limit int) int {
	*n = *n * 48271 % 2147483647
	return int(*n) % limit
}

func parse(t *testing.T, s string) api.Desc {
	t.Helper()
	d, place, err := parser.Parse(s)
	if err != api.OK {
		t.Fatal(s, place, err)
	}
	return d
}

const listText = "desc list { type C { val int; next C } var head C var n int proc push(v int) { local x C; x = new C; x.val = v; x.next = head; head = x; n = n + 1; } }"

const graphText = "desc graph { type N { val int; a N; e E; b N } type E { flag bool; to N } type Z { } var r N var c int var s E var f bool var z Z }"

func sameMem(a, b api.Mem) bool {
	return slices.Equal(a.Globals, b.Globals) && slices.EqualFunc(a.Nodes, b.Nodes, func(x, y api.Node) bool { return x.Type == y.Type && slices.Equal(x.F, y.F) })
}

func sameDisk(a, b api.Disk) bool {
	return a.Page == b.Page && bytes.Equal(a.Data, b.Data) && a.Synced == b.Synced && a.After == b.After
}

func isZero(d api.Disk) bool { return sameDisk(d, api.Disk{}) }

// graph returns a random memory of the graph.
func (n *numbers) graph(nodes int) api.Mem {
	m := api.Mem{}
	for range nodes {
		m.Nodes = append(m.Nodes, api.Node{Type: n.below(7) / 3})
	}
	ref := func(typ int) int {
		k := n.below(nodes + 1)
		if k == 0 || m.Nodes[k-1].Type != typ {
			return 0
		}
		return k
	}
	for i, x := range m.Nodes {
		switch x.Type {
		case 0:
			m.Nodes[i].F = []int{n.below(200) - 100, ref(0), ref(1), ref(0)}
		case 1:
			m.Nodes[i].F = []int{n.below(2), ref(0)}
		}
	}
	m.Globals = []int{ref(0), []int{0, 5, api.MaxInt, -api.MaxInt}[n.below(4)], ref(1), n.below(2), ref(2)}
	return m
}

// code makes a code by its definition.
func code(d api.Desc, m api.Mem) []byte {
	c, _ := heap.Canonical(d, m)
	var b []byte
	put := func(n int) {
		for shift := 40; shift >= 0; shift -= 8 {
			b = append(b, byte((n+1<<47)>>shift))
		}
	}
	for _, n := range c.Globals {
		put(n)
	}
	put(len(c.Nodes))
	for _, x := range c.Nodes {
		b = append(b, byte(x.Type))
		for _, n := range x.F {
			put(n)
		}
	}
	return b
}

// P53.1 and P53.6
func TestCodes(t *testing.T) {
	d := parse(t, graphText)
	for seed := 1; seed <= 200; seed++ {
		n := numbers(seed)
		m := n.graph(n.below(15))
		want := code(d, m)
		b, err := serializer.Encode(d, m)
		if !bytes.Equal(b, want) || err != api.OK {
			t.Fatal(m, b, err, want)
		}
		c, _ := heap.Canonical(d, m)
		if got, err := serializer.Decode(d, b); !sameMem(got, c) || err != api.OK {
			t.Fatal(c, got, err)
		}
		checkChanged(t, d, b, len(d.Globals))
	}
	long := parse(t, listText)
	m, _ := heap.New(long)
	for i := range api.MaxNodes {
		m.Nodes = append(m.Nodes, api.Node{F: []int{i, i}})
	}
	m.Globals[0] = api.MaxNodes
	b, err := serializer.Encode(long, m)
	if got, e := serializer.Decode(long, b); len(got.Nodes) != api.MaxNodes || err != api.OK || e != api.OK {
		t.Error(err, e)
	}
	m = api.Mem{Globals: []int{1, 1}, Nodes: []api.Node{{F: []int{5, 0}}}}
	if b, err := serializer.Encode(long, m); len(b) != 31 || err != api.OK {
		t.Error(b, err)
	}
}

// checkChanged changes a code: what is decoded has exactly this code.
func checkChanged(t *testing.T, d api.Desc, b []byte, globals int) {
	t.Helper()
	check := func(b []byte) {
		t.Helper()
		m, err := serializer.Decode(d, b)
		want := api.ErrForm
		if len(b) < 6*(globals+1) {
			want = api.ErrEnd
		}
		switch {
		case err == api.OK:
			if !heap.Valid(d, m) || !bytes.Equal(code(d, m), b) {
				t.Fatal(b, m)
			}
		case err != want || m.Globals != nil || m.Nodes != nil:
			t.Fatal(b, m, err, want)
		}
	}
	for i := range b {
		check(b[:i])
		for _, change := range []byte{1, 2, 128} {
			x := slices.Clone(b)
			x[i] ^= change
			check(x)
		}
	}
	check(append(slices.Clone(b), 0))
	check(append(slices.Clone(b), b...))
}

// tester has an archive, and the memories in it.
type tester struct {
	t    *testing.T
	d    api.Desc
	disk api.Disk
	all  []api.Mem
}

func (r *tester) bytes(l ...api.Mem) int {
	n := 0
	for _, m := range l {
		n += len(code(r.d, m))
	}
	return n
}

// check checks what is told of the archive.
func (r *tester) check() {
	r.t.Helper()
	if n, err := serializer.Len(r.disk); n != len(r.all) || err != api.OK {
		r.t.Fatal("Len", n, err, len(r.all))
	}
	for i, m := range r.all {
		c, _ := heap.Canonical(r.d, m)
		if got, err := serializer.Load(r.disk, r.d, i); !sameMem(got, c) || err != api.OK {
			r.t.Fatal("Load", i, got, err, c)
		}
	}
	for _, i := range []int{-1, len(r.all), 1 << 62, -1 << 63} {
		if got, err := serializer.Load(r.disk, r.d, i); got.Globals != nil || err != api.ErrRange {
			r.t.Fatal("Load", i, err)
		}
	}
	chunks := map[string]bool{}
	for _, m := range r.all {
		for c := range slices.Chunk(code(r.d, m), r.disk.Page) {
			chunks[string(c)] = true
		}
	}
	if n, err := serializer.Stored(r.disk); n != len(chunks) || err != api.OK {
		r.t.Fatal("Stored", n, err, len(chunks))
	}
	if n, err := serializer.Distinct(r.d, r.all, r.disk.Page); n != len(chunks) || err != api.OK {
		r.t.Fatal("Distinct", n, err, len(chunks))
	}
}

// save saves memories; without errors there is room for them exactly if there should be.
func (r *tester) save(l ...api.Mem) api.Errno {
	r.t.Helper()
	before := api.Disk{Page: r.disk.Page, Data: slices.Clone(r.disk.Data), Synced: r.disk.Synced, After: r.disk.After}
	var disk api.Disk
	var err api.Errno
	if len(l) == 1 {
		var number int
		disk, number, err = serializer.Add(r.disk, r.d, l[0])
		if err == api.OK && number != len(r.all) || err != api.OK && number != 0 {
			r.t.Fatal("Add", number, err)
		}
	} else {
		disk, err = serializer.Save(r.disk, r.d, l)
	}
	if !sameDisk(before, r.disk) {
		r.t.Fatal("an argument was changed")
	}
	full := len(r.all)+len(l) > 30 || r.bytes(r.all...)+r.bytes(l...) > 12000
	if full != (err == api.ErrFull) {
		r.t.Fatal("Save", err, full)
	}
	if err == api.ErrFull {
		if !isZero(disk) {
			r.t.Fatal("Save", disk)
		}
		return err
	}
	commits, _ := pagefile.Commits(r.disk)
	if after, _ := pagefile.Commits(disk); err == api.OK && (len(l) > 0 && after != commits+1 || len(l) == 0 && !sameDisk(disk, before)) {
		r.t.Fatal("Save", after, commits)
	}
	r.disk = disk
	if err == api.OK {
		r.all = append(r.all, l...)
	}
	return err
}

func newTester(t *testing.T, d api.Desc, page, after int) *tester {
	t.Helper()
	k, err := pagefile.Format(page, after)
	if err != api.OK {
		t.Fatal(err)
	}
	r := &tester{t: t, d: d, disk: k}
	r.check()
	return r
}

// P53.2 to P53.4: random memories, some of them the same, up to the room there is.
func TestArchives(t *testing.T) {
	d := parse(t, graphText)
	for _, page := range []int{32, 33, 50, 100, 256} {
		for _, size := range []int{3, 12, 40} {
			n := numbers(page + size)
			r := newTester(t, d, page, -1)
			full := 0
			for full < 5 {
				var l []api.Mem
				for range n.below(4) {
					if len(r.all) > 0 && n.below(3) == 0 {
						l = append(l, r.all[n.below(len(r.all))])
					} else {
						l = append(l, n.graph(n.below(size)))
					}
				}
				if r.save(l...) == api.ErrFull {
					full++
				}
			}
			r.check()
			checkpoint, err := pagefile.Checkpoint(r.disk)
			if r.disk = checkpoint; err != api.OK {
				t.Fatal(err)
			}
			r.check()
		}
	}
}

// Versions of a list share most of their codes.
func TestSharedChunks(t *testing.T) {
	d := parse(t, listText)
	r := newTester(t, d, 32, -1)
	m, _ := heap.New(d)
	for i := range 25 {
		_, m, _ = eval.Run(d, m, api.Call{Proc: "push", Args: []int{i}}, 100)
		if err := r.save(m); err != api.OK {
			t.Fatal(i, err)
		}
	}
	r.check()
	before, _ := serializer.Stored(r.disk)
	if err := r.save(r.all[7], r.all[24]); err != api.OK {
		t.Fatal(err)
	}
	if after, err := serializer.Stored(r.disk); after != before || err != api.OK {
		t.Error(after, before, err)
	}
	r.check()
}

// As many bytes, and as many versions, as there is room for.
func TestRoom(t *testing.T) {
	d := parse(t, listText)
	m := api.Mem{Globals: []int{0, 0}}
	for i := range 921 {
		m.Nodes = append(m.Nodes, api.Node{F: []int{i * 1000003, i}})
	}
	m.Globals[0] = len(m.Nodes)
	for _, page := range []int{32, 256} {
		// 18 bytes, and 13 for each node.
		r := newTester(t, d, page, -1)
		if err := r.save(m); err != api.OK || r.bytes(m) != 11991 {
			t.Fatal(err, r.bytes(m))
		}
		r.save(api.Mem{Globals: []int{0, 3}})
		r.save()
		r.check()
		r = newTester(t, d, page, -1)
		var l []api.Mem
		for i := range 31 {
			l = append(l, api.Mem{Globals: []int{0, i}})
		}
		r.save(l...)
		r.save(l[:30]...)
		r.save(l[0])
		r.save()
		r.check()
		if len(r.all) != 30 {
			t.Error(len(r.all))
		}
		for memories, nodes := range map[int]int{8: 912, 3: 919} {
			r = newTester(t, d, page, -1)
			var l []api.Mem
			for i := range memories {
				count := nodes / memories
				if i == 0 {
					count += nodes % memories
				}
				x := api.Mem{Globals: []int{count, i}}
				for k := range count {
					x.Nodes = append(x.Nodes, api.Node{F: []int{i + k, k}})
				}
				l = append(l, x)
			}
			want := api.OK
			if memories == 3 {
				want = api.ErrFull
			}
			if n, err := r.bytes(l...), r.save(l...); n != 12001-memories/8 || err != want {
				t.Error(n, err)
			}
			r.check()
		}
		// Different last chunks, and full ones, with as many pages as there may be.
		r = newTester(t, d, page, -1)
		for i := range 30 {
			x := api.Mem{Globals: []int{29, i}}
			for k := range 29 {
				x.Nodes = append(x.Nodes, api.Node{F: []int{i*1000 + k, k}})
			}
			r.save(x)
		}
		r.check()
	}
}

// P53.5: a crash at any byte, keeping some bytes of what is not synced.
func TestCrashes(t *testing.T) {
	d := parse(t, graphText)
	n := numbers(3)
	var all []api.Mem
	for range 5 {
		all = append(all, n.graph(6))
	}
	for after := 0; after < 2500; after += 7 {
		r := newTester(t, d, 32, after)
		var err api.Errno
		for i := 0; i < 5 && err == api.OK; i++ {
			if i == 2 {
				err = r.save(all[2], all[3])
				i++
			} else {
				err = r.save(all[i])
			}
		}
		if err == api.OK {
			continue
		}
		if err != api.ErrCrash || r.disk.After != 0 {
			t.Fatal(after, err)
		}
		if again := r.save(all[0]); again != api.ErrCrash {
			t.Fatal(again)
		}
		lost := len(r.disk.Data) - r.disk.Synced
		for _, keep := range []int{0, lost / 2, lost} {
			k, _ := pagefile.Crash(r.disk, keep)
			s := &tester{t: t, d: d, disk: k, all: slices.Clone(r.all)}
			if s.disk, err = serializer.Restart(k); err != api.OK {
				t.Fatal(err)
			}
			if open, _ := pagefile.Open(k); !sameDisk(s.disk, open) {
				t.Fatal("Restart")
			}
			s.check()
			s.save(all[4])
			s.check()
		}
	}
}

// Disks that are no archives: functions return.
func TestNoArchives(t *testing.T) {
	d := parse(t, graphText)
	n := numbers(5)
	r := newTester(t, d, 32, -1)
	r.save(n.graph(8), n.graph(9), n.graph(8))
	pages, _ := pagefile.Pages(r.disk)
	for p := range pages {
		b, _ := pagefile.Get(r.disk, p)
		for i := range b {
			for _, x := range []byte{b[i] + 1, b[i] - 1, 255, 0} {
				changed := slices.Clone(b)
				changed[i] = x
				k, err := pagefile.Commit(r.disk, []int{p}, [][]byte{changed})
				if err != api.OK {
					t.Fatal(err)
				}
				serializer.Len(k)
				serializer.Stored(k)
				serializer.Load(k, d, 1)
				serializer.Save(k, d, []api.Mem{n.graph(3)})
			}
		}
	}
	for _, page := range []int{8, 32, 200} {
		k, _ := pagefile.Format(page, -1)
		k, _ = pagefile.Commit(k, []int{0, 3}, [][]byte{make([]byte, page), make([]byte, page)})
		if n, err := serializer.Len(k); n != 0 || err != api.ErrForm {
			t.Error(n, err)
		}
		if n, err := serializer.Stored(k); n != 0 || err != api.ErrForm {
			t.Error(n, err)
		}
		if m, err := serializer.Load(k, d, 0); m.Globals != nil || err != api.ErrForm {
			t.Error(m, err)
		}
	}
	// The versions of another description.
	if m, err := serializer.Load(r.disk, parse(t, listText), 0); m.Globals != nil || err != api.ErrForm {
		t.Error(m, err)
	}
}

func TestErrors(t *testing.T) {
	d := parse(t, graphText)
	good, _ := heap.New(d)
	wrong := parse(t, listText)
	wrong.Procs[0].Body[0].S = "unknown"
	wrongMem, _ := heap.New(wrong)
	small, _ := pagefile.Format(31, -1)
	disk, _ := pagefile.Format(32, -1)
	for i, x := range []struct {
		k    api.Disk
		d    api.Desc
		l    []api.Mem
		want api.Errno
	}{
		{small, api.Desc{}, nil, api.ErrArg}, {small, wrong, []api.Mem{wrongMem}, api.ErrArg}, {small, d, []api.Mem{good, {}}, api.ErrArg}, {api.Disk{}, d, nil, api.ErrArg}, {api.Disk{Page: 32, Synced: 1}, d, []api.Mem{good}, api.ErrArg},
		{small, d, nil, api.ErrShape}, {small, d, slices.Repeat([]api.Mem{good}, 31), api.ErrShape}, {disk, d, slices.Repeat([]api.Mem{good}, 31), api.ErrFull}, {disk, d, nil, api.OK},
	} {
		k, err := serializer.Save(x.k, x.d, x.l)
		if err != x.want || err != api.OK && !isZero(k) {
			t.Error(i, err, x.want)
		}
		if len(x.l) != 1 {
			continue
		}
		if k, n, err := serializer.Add(x.k, x.d, x.l[0]); err != x.want || !isZero(k) || n != 0 {
			t.Error(i, n, err, x.want)
		}
	}
	for i, x := range []struct {
		d    api.Desc
		m    api.Mem
		size int
		want api.Errno
	}{{api.Desc{}, good, 0, api.ErrArg}, {wrong, wrongMem, 0, api.ErrArg}, {d, api.Mem{}, 0, api.ErrArg}, {d, good, 0, api.ErrRange}, {d, good, -1, api.ErrRange}, {d, good, api.MaxText + 1, api.ErrRange}, {d, good, api.MaxText, api.OK}, {d, good, 1, api.OK}} {
		if n, err := serializer.Distinct(x.d, []api.Mem{x.m}, x.size); err != x.want || err != api.OK && n != 0 {
			t.Error(i, n, err)
		}
		if b, err := serializer.Encode(x.d, x.m); x.want == api.ErrArg && (b != nil || err != api.ErrArg) {
			t.Error(i, b, err)
		}
	}
	for _, x := range []api.Desc{{}, wrong} {
		if m, err := serializer.Decode(x, nil); m.Globals != nil || err != api.ErrArg {
			t.Error(m, err)
		}
		if m, err := serializer.Load(disk, x, 0); m.Globals != nil || err != api.ErrArg {
			t.Error(m, err)
		}
	}
	invalid := api.Disk{Page: 3}
	if n, err := serializer.Len(invalid); n != 0 || err != api.ErrArg {
		t.Error(n, err)
	}
	if n, err := serializer.Stored(invalid); n != 0 || err != api.ErrArg {
		t.Error(n, err)
	}
	if m, err := serializer.Load(invalid, d, 0); m.Globals != nil || err != api.ErrArg {
		t.Error(m, err)
	}
	if k, err := serializer.Restart(invalid); !isZero(k) || err != api.ErrArg {
		t.Error(k, err)
	}
	if n, err := serializer.Distinct(d, nil, 5); n != 0 || err != api.OK {
		t.Error(n, err)
	}
	if n, err := serializer.Len(small); n != 0 || err != api.OK {
		t.Error(n, err)
	}
}

// Memories of the structures of the library.
func TestLibrary(t *testing.T) {
	for _, name := range library.Names() {
		d, _ := library.Load(name)
		r := newTester(t, d, 64, -1)
		m, _ := heap.New(d)
		for i := range 10 {
			o := api.Op{Code: 1, Args: []int{i * 3 % 7, i}}
			for _, size := range []int{0, 1, 2} {
				if c, err := library.Bind(name, api.Op{Code: o.Code, Args: o.Args[:size]}); err == api.OK {
					_, m, _ = eval.Run(d, m, c, 10000)
				}
			}
			r.save(m)
		}
		r.check()
	}
}
