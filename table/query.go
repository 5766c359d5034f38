package table

import (
	"slices"

	"heartwood/api"
)

// ByKey returns the identifiers of the records whose keys are from from to to, ascending by their keys.
func (t *Table) ByKey(from, to int) ([]int, api.Errno) {
	if !t.isMade() {
		return nil, api.ErrArg
	}
	return t.byKey(from, to), api.OK
}

func (t *Table) byKey(from, to int) []int {
	from, to = max(from, -api.MaxKey), min(to, api.MaxKey)
	if from > to {
		return nil
	}
	entries, _ := t.keys.Scan(from, to)
	var ids []int
	for _, e := range entries {
		ids = append(ids, t.ids[e[0]])
	}
	// A scan leaves out its end.
	if id, found := t.ids[to]; found {
		ids = append(ids, id)
	}
	return ids
}

// ByPlace returns the identifiers of the records in a rectangle, ascending.
func (t *Table) ByPlace(x1, x2, y1, y2 int) ([]int, api.Errno) {
	if !t.isMade() {
		return nil, api.ErrArg
	}
	return t.byPlace(x1, x2, y1, y2), api.OK
}

func (t *Table) byPlace(x1, x2, y1, y2 int) []int {
	points, _ := t.places.Report(x1, x2, y1, y2)
	var ids []int
	for _, p := range points {
		ids = append(ids, t.at[place{p.X, p.Y}]...)
	}
	slices.Sort(ids)
	return ids
}

// ByName returns the identifiers of the records whose names have a part, ascending.
func (t *Table) ByName(part string) ([]int, api.Errno) {
	if !t.isMade() {
		return nil, api.ErrArg
	}
	return t.names.find(part), api.OK
}

// Weight returns the sum of the weights of the records in a rectangle.
func (t *Table) Weight(x1, x2, y1, y2 int) (int, api.Errno) {
	if !t.isMade() {
		return 0, api.ErrArg
	}
	sum := 0
	for _, id := range t.byPlace(x1, x2, y1, y2) {
		sum += t.records[id].W
	}
	return sum, api.OK
}

// Join returns the pairs of the identifiers of records of both tables with equal keys, ascending by the keys.
func (t *Table) Join(u *Table) ([][2]int, api.Errno) {
	if !t.isMade() || !u.isMade() {
		return nil, api.ErrArg
	}
	var pairs [][2]int
	for _, id := range t.byKey(-api.MaxKey, api.MaxKey) {
		if other, found := u.ids[t.records[id].Key]; found {
			pairs = append(pairs, [2]int{id, other})
		}
	}
	return pairs, api.OK
}

// Check reports whether all indexes agree with the records.
func (t *Table) Check() bool {
	if !t.isMade() || len(t.ids) != len(t.records) || t.keys.Len() != len(t.records) || t.places.Len() != len(t.at) {
		return false
	}
	all := t.List()
	keys := t.byKey(-api.MaxKey, api.MaxKey)
	slices.Sort(keys)
	places := t.byPlace(-api.MaxKey, api.MaxKey, -api.MaxKey, api.MaxKey)
	if !slices.Equal(keys, all) || !slices.Equal(places, all) || !slices.Equal(t.names.find(""), all) {
		return false
	}
	found := map[string][]int{} // what is found by each name
	for id, r := range t.records {
		if _, asked := found[r.Name]; !asked {
			found[r.Name] = t.names.find(r.Name)
		}
		if t.ids[r.Key] != id || !slices.Contains(t.at[place{r.X, r.Y}], id) || !slices.Contains(found[r.Name], id) {
			return false
		}
	}
	return true
}
