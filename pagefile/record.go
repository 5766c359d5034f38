package pagefile

import (
	"slices"

	"heartwood/api"
)

// numberSize is how many bytes a number has.
const numberSize = 4

// appendNumber appends a number below 2^32.
func appendNumber(b []byte, n int) []byte {
	return append(b, byte(n), byte(n>>8), byte(n>>16), byte(n>>24))
}

func sum(b []byte) uint32 {
	h := uint32(2166136261)
	for _, x := range b {
		h = (h ^ uint32(x)) * 16777619
	}
	return h
}

// record returns the record of pages with their bytes.
func record(pages []int, data [][]byte) []byte {
	b := appendNumber(nil, len(pages))
	for i, p := range pages {
		b = append(appendNumber(b, p), data[i]...)
	}
	return appendNumber(b, int(sum(b)))
}

// contents is what the records at the beginning of a disk say.
type contents struct {
	records int
	end     int         // of the records
	pages   int         // how many there are
	places  map[int]int // where the bytes of each page stand, if a record has it
}

func contentsOf(d api.Disk) contents {
	c := contents{places: map[int]int{}}
	for {
		places, end, ok := readRecord(d, c.end)
		if !ok {
			return c
		}
		for p, at := range places {
			c.places[p] = at
			c.pages = max(c.pages, p+1)
		}
		c.records++
		c.end = end
	}
}

// page returns the bytes of a page of a disk.
func (c contents) page(d api.Disk, p int) []byte {
	at, found := c.places[p]
	if !found {
		return make([]byte, d.Page)
	}
	return slices.Clone(d.Data[at : at+d.Page])
}

// reader reads a record.
type reader struct {
	data []byte
	at   int
	torn bool // whether there were too few bytes
}

// skip goes over some bytes, and returns where they begin.
func (r *reader) skip(n int) int {
	at := r.at
	if len(r.data)-at < n {
		r.torn = true
	} else {
		r.at += n
	}
	return at
}

func (r *reader) number() int {
	at := r.skip(numberSize)
	if r.torn {
		return 0
	}
	b := r.data[at:]
	return int(b[0]) | int(b[1])<<8 | int(b[2])<<16 | int(b[3])<<24
}

// readRecord reads the record that begins at a place; it returns where the bytes of its pages stand, its end, and whether
// there is one.
func readRecord(d api.Disk, from int) (map[int]int, int, bool) {
	r := &reader{data: d.Data, at: from}
	count := r.number()
	places := map[int]int{}
	for i := 0; i < count && !r.torn; i++ {
		p := r.number()
		if _, twice := places[p]; twice || p >= api.MaxList {
			return nil, 0, false
		}
		places[p] = r.skip(d.Page)
	}
	body := d.Data[from:r.at]
	if s := r.number(); r.torn || uint32(s) != sum(body) {
		return nil, 0, false
	}
	return places, r.at, true
}
