package serializer

import (
	"slices"

	"heartwood/api"
	"heartwood/pagefile"
)

// An archive has at the page 0 a mark, the number of versions, and the page at which the list of the last version
// begins. A list has the page of the list of the version before, the size of the code, and the pages of its chunks; it is
// in a chain of pages, each of which begins with the page that comes next, or 0. All numbers have two bytes.

const (
	mark       = "heartwood archive"
	numberSize = 2
	listHead   = 2 * numberSize
)

func appendNumber(b []byte, n int) []byte { return append(b, byte(n>>8), byte(n)) }

// number returns the number with an index in some bytes.
func number(b []byte, i int) int { return int(b[numberSize*i])<<8 | int(b[numberSize*i+1]) }

// archive is what a disk says of versions.
type archive struct {
	disk     api.Disk
	pages    int // how many there are
	versions []version
}

// version is a version: its list, the size of its code, and the pages of its chunks.
type version struct {
	list, size int
	pages      []int
}

// open reads an archive.
func open(k api.Disk) (archive, api.Errno) {
	pages, err := pagefile.Pages(k)
	if err != api.OK {
		return archive{}, err
	}
	a := archive{disk: k, pages: pages}
	if pages == 0 {
		return a, api.OK
	}
	root := a.page(0)
	if k.Page < minPage || string(root[:len(mark)]) != mark {
		return archive{}, api.ErrForm
	}
	count, list := number(root[len(mark):], 0), number(root[len(mark):], 1)
	if count > maxVersions {
		return archive{}, api.ErrForm
	}
	for range count {
		v, before, ok := a.version(list)
		if !ok {
			return archive{}, api.ErrForm
		}
		a.versions = append(a.versions, v)
		list = before
	}
	slices.Reverse(a.versions)
	return a, api.OK
}

// page returns the bytes of a page, which are zeros if there is none.
func (a archive) page(p int) []byte {
	b, err := pagefile.Get(a.disk, p)
	if err != api.OK {
		return make([]byte, a.disk.Page)
	}
	return b
}

// version reads the list of a version; it also returns the page of the list before, and whether this is a list.
func (a archive) version(list int) (version, int, bool) {
	b := a.chain(list)
	if len(b) < listHead {
		return version{}, 0, false
	}
	v := version{list: list, size: number(b, 1)}
	if v.size == 0 || v.size > maxBytes {
		return version{}, 0, false
	}
	chunks := (v.size + a.disk.Page - 1) / a.disk.Page
	if len(b) < listHead+numberSize*chunks {
		return version{}, 0, false
	}
	for i := range chunks {
		v.pages = append(v.pages, number(b[listHead:], i))
	}
	return v, number(b, 0), true
}

// chain returns the bytes of a chain of pages. One that leads back to itself is followed as often as there are pages.
func (a archive) chain(p int) []byte {
	var b []byte
	for i := 0; i < a.pages && p != 0; i++ {
		x := a.page(p)
		b = append(b, x[numberSize:]...)
		p = number(x, 0)
	}
	return b
}

// chunks returns the chunks of a version.
func (a archive) chunks(v version) [][]byte {
	var l [][]byte
	left := v.size
	for _, p := range v.pages {
		l = append(l, a.page(p)[:min(left, a.disk.Page)])
		left -= a.disk.Page
	}
	return l
}

// hasRoom reports whether there is room for further codes.
func (a archive) hasRoom(added [][]byte) bool {
	bytes := 0
	for _, v := range a.versions {
		bytes += v.size
	}
	for _, code := range added {
		bytes += len(code)
	}
	return len(a.versions)+len(added) <= maxVersions && bytes <= maxBytes
}

// writer collects the pages that further versions need.
type writer struct {
	size  int // of a page
	next  int // the first page that is free
	count int // of versions
	list  int // that of the last version
	known map[string]int
	pages []int
	data  [][]byte
}

// writer returns a writer that knows the chunks of an archive.
func (a archive) writer() *writer {
	w := &writer{size: a.disk.Page, next: max(a.pages, 1), count: len(a.versions), known: map[string]int{}}
	for _, v := range a.versions {
		w.list = v.list
		for i, chunk := range a.chunks(v) {
			w.known[string(chunk)] = v.pages[i]
		}
	}
	return w
}

// page adds a page that begins with some bytes.
func (w *writer) page(p int, b []byte) {
	w.pages = append(w.pages, p)
	w.data = append(w.data, append(slices.Clone(b), make([]byte, w.size-len(b))...))
}

// fresh adds a page that was free, and returns its number.
func (w *writer) fresh(b []byte) int {
	w.next++
	w.page(w.next-1, b)
	return w.next - 1
}

// version adds a version with a code; chunks that are known are not stored again.
func (w *writer) version(code []byte) {
	list := appendNumber(appendNumber(nil, w.list), len(code))
	for chunk := range slices.Chunk(code, w.size) {
		p, known := w.known[string(chunk)]
		if !known {
			p = w.fresh(chunk)
			w.known[string(chunk)] = p
		}
		list = appendNumber(list, p)
	}
	// The last page of a chain comes first, so that each one knows the next one.
	next := 0
	for _, part := range slices.Backward(slices.Collect(slices.Chunk(list, w.size-numberSize))) {
		next = w.fresh(append(appendNumber(nil, next), part...))
	}
	w.list = next
	w.count++
}

// finish adds the page 0, and returns all pages with their bytes.
func (w *writer) finish() ([]int, [][]byte) {
	w.page(0, appendNumber(appendNumber([]byte(mark), w.count), w.list))
	return w.pages, w.data
}
