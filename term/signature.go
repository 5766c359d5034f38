package term

import (
	"slices"

	"heartwood/api"
	"heartwood/lex"
)

const maxSorts = 40

// ValidSignature reports whether g is a valid signature.
func ValidSignature(g api.Signature) bool {
	if len(g.Sorts) > maxSorts || len(g.Ops) > api.MaxRules || !differentNames(g.Sorts) {
		return false
	}
	names := make([]string, 0, len(g.Ops))
	for _, d := range g.Ops {
		if !validDecl(g.Sorts, d) {
			return false
		}
		names = append(names, d.Name)
	}
	return differentNames(names)
}

func differentNames(l []string) bool {
	seen := map[string]bool{}
	for _, s := range l {
		if !lex.IsName(s) || seen[s] {
			return false
		}
		seen[s] = true
	}
	return true
}

// validDecl reports whether the sorts of a declaration are among sorts, and are not too many.
func validDecl(sorts []string, d api.Decl) bool {
	if len(d.Args) > api.MaxParams {
		return false
	}
	for _, s := range d.Args {
		if !slices.Contains(sorts, s) {
			return false
		}
	}
	return slices.Contains(sorts, d.Result)
}

// known is a valid signature whose operations are found by their names.
type known struct {
	sorts []string
	ops   map[string]api.Decl
}

func knownOf(g api.Signature) known {
	k := known{sorts: g.Sorts, ops: map[string]api.Decl{}}
	for _, d := range g.Ops {
		k.ops[d.Name] = d
	}
	return k
}

// ownSort returns the own sort of a node, and whether it has one.
func (k known) ownSort(node api.Term) (string, bool) {
	if isVariable(node) {
		return node.Sort, true
	}
	d, declared := k.ops[node.Name]
	return d.Result, declared
}

// check returns OK if a node is right, and otherwise what is wrong with it.
func (k known) check(node api.Term) api.Errno {
	if isVariable(node) {
		if !slices.Contains(k.sorts, node.Sort) {
			return api.ErrName
		}
		return api.OK
	}
	d, declared := k.ops[node.Name]
	if !declared {
		return api.ErrName
	}
	if len(node.L) != len(d.Args) {
		return api.ErrSize
	}
	for i := range node.L {
		if sort, has := k.ownSort(node.L[i]); has && sort != d.Args[i] {
			return api.ErrType
		}
	}
	return api.OK
}
