package refs_test

import (
	"reflect"
	"testing"

	"heartwood/api"
	"heartwood/parser"
	"heartwood/refs"
)

func TestSearch(t *testing.T) {
	d, _, err := parser.Parse("desc d { type T { k int; n T; b bool } type E { } var r T var c int var e E }")
	if err != api.OK {
		t.Fatal(err)
	}
	f := refs.Of(d)
	if !reflect.DeepEqual(f, refs.Fields{Globals: []bool{true, false, true}, Types: [][]bool{{false, true, false}, {}}}) {
		t.Error(f)
	}
	if l := refs.Parts([]int{5, 30, 1}, f.Types[0]); !reflect.DeepEqual(l, []int{30}) {
		t.Error(l)
	}
	if l := refs.Parts([]int{5, 0, 1}, f.Types[0]); len(l) != 0 || len(refs.Parts(nil, f.Types[1])) != 0 {
		t.Error(l)
	}
	nodes := map[int][]int{70: {5, 30, 1}, 30: {6, 70, 0}, 9: {7, 9, 0}}
	v := f.Search([]int{70, 4, 50}, func(id int) (int, []int) {
		if id == 50 {
			return 1, nil
		}
		return 0, nodes[id]
	})
	if !reflect.DeepEqual(v.IDs, []int{70, 30, 50}) || !reflect.DeepEqual(v.Mem.Globals, []int{1, 4, 3}) {
		t.Error(v)
	}
	if !reflect.DeepEqual(v.Mem.Nodes, []api.Node{{F: []int{5, 2, 1}}, {F: []int{6, 1, 0}}, {Type: 1}}) {
		t.Error(v.Mem.Nodes)
	}
	if !reflect.DeepEqual(nodes[70], []int{5, 30, 1}) {
		t.Error("an argument was changed")
	}
}
