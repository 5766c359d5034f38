package copies_test

import (
	"reflect"
	"testing"

	"heartwood/api"
	"heartwood/copies"
	"heartwood/library"
)

// spoil changes all numbers and strings that a value refers to by slices.
func spoil(v reflect.Value) {
	switch v.Kind() {
	case reflect.Slice:
		for i := range v.Len() {
			spoil(v.Index(i))
			if x := v.Index(i); x.Kind() == reflect.Int {
				x.SetInt(x.Int() + 1)
			}
		}
	case reflect.Struct:
		for i := range v.NumField() {
			f := v.Field(i)
			spoil(f)
			if f.CanSet() && f.Kind() == reflect.Int {
				f.SetInt(f.Int() + 1)
			}
			if f.CanSet() && f.Kind() == reflect.String {
				f.SetString(f.String() + "x")
			}
		}
	}
}

func TestDescriptions(t *testing.T) {
	for _, name := range library.Names() {
		d, _ := library.Load(name)
		same, _ := library.Load(name)
		r := copies.Desc(d)
		again := copies.Desc(r)
		if !reflect.DeepEqual(copies.Desc(same), r) {
			t.Fatal(name)
		}
		spoil(reflect.ValueOf(d))
		if reflect.DeepEqual(copies.Desc(same), copies.Desc(d)) || !reflect.DeepEqual(again, r) {
			t.Error(name)
		}
	}
}

func TestMemories(t *testing.T) {
	m := api.Mem{Globals: []int{1, 2}, Nodes: []api.Node{{Type: 1, F: []int{3, 4}}, {F: []int{}}}}
	r := copies.Mem(m)
	if !reflect.DeepEqual(m, r) {
		t.Error(r)
	}
	spoil(reflect.ValueOf(m))
	if !reflect.DeepEqual(r, api.Mem{Globals: []int{1, 2}, Nodes: []api.Node{{Type: 1, F: []int{3, 4}}, {F: []int{}}}}) {
		t.Error(r)
	}
}
