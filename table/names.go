package table

import (
	"slices"
	"strings"

	"heartwood/api"
	"heartwood/suffixindex"
)

// slack is how many names may have changed, besides a half of them, before the indexes of names are built anew.
const slack = 32

// separator stands after each name in a text; names do not have it.
const separator = "\n"

// names finds names by their parts. Most of them are in texts with indexes; the others are looked through.
type names struct {
	current map[int]string // by the identifiers of the records
	chunks  []chunk
	changed map[int]bool // those that are not in chunks as they are now
}

// chunk is a text of several names with an index.
type chunk struct {
	index  *suffixindex.Index
	ids    []int
	starts []int // where each name begins
}

func newNames() names { return names{current: map[int]string{}, changed: map[int]bool{}} }

// isPlain reports whether a text has only bytes that names may have.
func isPlain(s string) bool {
	for i := range len(s) {
		if s[i] < 32 || s[i] > 126 {
			return false
		}
	}
	return true
}

func (n *names) set(id int, name string) {
	n.current[id] = name
	n.note(id)
}

func (n *names) remove(id int) {
	delete(n.current, id)
	n.note(id)
}

// note notes that a name has changed, and builds the indexes anew if there are too many of them.
func (n *names) note(id int) {
	n.changed[id] = true
	if len(n.changed) > slack+len(n.current)/2 {
		n.build()
	}
}

func (n *names) build() {
	clear(n.changed)
	n.chunks = nil
	var ids []int
	for id := range n.current {
		ids = append(ids, id)
	}
	slices.Sort(ids)
	var text strings.Builder
	var c chunk
	for _, id := range ids {
		if text.Len()+len(n.current[id])+len(separator) > api.MaxNodes {
			n.add(c, text.String())
			text.Reset()
			c = chunk{}
		}
		c.ids = append(c.ids, id)
		c.starts = append(c.starts, text.Len())
		text.WriteString(n.current[id] + separator)
	}
	n.add(c, text.String())
}

func (n *names) add(c chunk, text string) {
	c.index, _ = suffixindex.Make(text)
	n.chunks = append(n.chunks, c)
}

// find returns the identifiers of the names that have a part, ascending.
func (n *names) find(part string) []int {
	var ids []int
	switch {
	case len(part) > api.MaxName || !isPlain(part):
		return nil
	case part == "":
		for id := range n.current {
			ids = append(ids, id)
		}
	default:
		for _, c := range n.chunks {
			ids = append(ids, slices.DeleteFunc(c.find(part), func(id int) bool { return n.changed[id] })...)
		}
		for id := range n.changed {
			if name, is := n.current[id]; is && strings.Contains(name, part) {
				ids = append(ids, id)
			}
		}
	}
	slices.Sort(ids)
	return ids
}

// find returns the identifiers of the names of a text that have a part, which may have changed since then.
func (c chunk) find(part string) []int {
	places, _ := c.index.Locate(part)
	var ids []int
	for _, p := range places {
		i, begins := slices.BinarySearch(c.starts, p)
		if !begins {
			i--
		}
		ids = append(ids, c.ids[i])
	}
	return slices.Compact(ids)
}
