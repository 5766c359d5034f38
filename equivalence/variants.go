package equivalence

import (
	"slices"

	"heartwood/api"
	"heartwood/library"
)

// Names of variants.
const (
	modelName    = "model"
	externalName = "external"
)

const (
	listedOrder = 4 // of the B-tree in the list of variants
	listedSize  = 4 // of blocks there
)

// nativeName returns the name of the native variant of a kind, or "" if there is no such kind.
func nativeName(kind int) string {
	switch kind {
	case api.Dict:
		return "btree"
	case api.Heap:
		return "softheap"
	case api.Seq:
		return "fingertree"
	case api.Sets:
		return "forest"
	case api.Range:
		return "rangetree"
	case api.Text:
		return "suffixindex"
	}
	return ""
}

// bases returns the structures of the library of a kind.
func bases(kind int) []string {
	return slices.DeleteFunc(library.Names(), func(name string) bool {
		k, _ := library.Kind(name)
		return k != kind
	})
}

// Variants returns the list of variants of a kind.
func Variants(kind int) ([]api.Variant, api.Errno) {
	name := nativeName(kind)
	if name == "" {
		return nil, api.ErrArg
	}
	native := api.Variant{Name: name}
	if kind == api.Dict {
		native.N = listedOrder
	}
	l := []api.Variant{{Name: modelName}, native}
	for _, base := range bases(kind) {
		for _, w := range (&structure{}).ways() {
			v := api.Variant{Name: w.name, Base: base}
			if w.name == externalName {
				v.N = listedSize
			}
			l = append(l, v)
		}
	}
	return l, api.OK
}

// Valid reports whether a variant is valid for a kind.
func Valid(kind int, v api.Variant) bool {
	least, greatest := 0, 0
	switch {
	case nativeName(kind) == "":
		return false
	case v.Base != "":
		isWay := slices.ContainsFunc((&structure{}).ways(), func(w way) bool { return w.name == v.Name })
		if !isWay || !slices.Contains(bases(kind), v.Base) {
			return false
		}
		if v.Name == externalName {
			least, greatest = 1, api.MaxArgs
		}
	case v.Name == nativeName(kind):
		if kind == api.Dict {
			least, greatest = 3, 64
		}
	case v.Name != modelName:
		return false
	}
	return least <= v.N && v.N <= greatest
}

// runnerOf returns what does the operations of a script, one after the other, by a valid variant.
func runnerOf(kind int, v api.Variant) func(api.Op) (api.Res, api.Cost) {
	if v.Base != "" {
		return newStructure(v).do
	}
	do := modelOf(kind)
	if v.Name != modelName {
		do = nativeOf(kind, v.N)
	}
	return func(o api.Op) (api.Res, api.Cost) { return do(o), api.Cost{} }
}
