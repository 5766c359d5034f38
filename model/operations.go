package model

import "heartwood/api"

const (
	maxCode      = 8 // the greatest code of all kinds
	maxCharacter = 255
	characters   = -1 // stands for 1 to MaxArgs characters where a number of arguments stands
)

// form is what the operations of a kind with the same code have in common.
type form struct {
	word   string
	args   int // the number of arguments
	update bool
}

func isKind(kind int) bool { return api.Dict <= kind && kind <= api.Text }

// forms returns the forms of a kind, by their codes; they have no word where there is no code.
func forms(kind int) [maxCode + 1]form {
	switch kind {
	case api.Dict:
		return [maxCode + 1]form{
			api.DictPut: {"put", 2, true}, api.DictGet: {"get", 1, false}, api.DictRemove: {"remove", 1, true},
			api.DictFloor: {"floor", 1, false}, api.DictCeiling: {"ceiling", 1, false}, api.DictRank: {"rank", 1, false},
			api.DictSelect: {"select", 1, false}, api.DictSize: {"size", 0, false},
		}
	case api.Heap:
		return [maxCode + 1]form{
			api.HeapInsert: {"insert", 1, true}, api.HeapMin: {"min", 0, false},
			api.HeapDeleteMin: {"deletemin", 0, true}, api.HeapSize: {"size", 0, false},
		}
	case api.Seq:
		return [maxCode + 1]form{
			api.SeqInsert: {"insert", 2, true}, api.SeqRemove: {"remove", 1, true}, api.SeqGet: {"get", 1, false},
			api.SeqSet: {"set", 2, true}, api.SeqSum: {"sum", 2, false}, api.SeqReverse: {"reverse", 2, true},
			api.SeqSize: {"size", 0, false},
		}
	case api.Sets:
		return [maxCode + 1]form{
			api.SetsMake: {"make", 0, true}, api.SetsUnion: {"union", 2, true}, api.SetsSame: {"same", 2, false},
			api.SetsSize: {"size", 1, false}, api.SetsCount: {"count", 0, false},
		}
	case api.Range:
		return [maxCode + 1]form{
			api.RangeAdd: {"add", 3, true}, api.RangeRemove: {"remove", 2, true}, api.RangeCount: {"count", 4, false},
			api.RangeSum: {"sum", 4, false}, api.RangeSize: {"size", 0, false},
		}
	case api.Text:
		return [maxCode + 1]form{
			api.TextAppend: {"append", characters, true}, api.TextCount: {"count", characters, false},
			api.TextFind: {"find", characters, false}, api.TextSize: {"size", 0, false},
		}
	}
	return [maxCode + 1]form{}
}

// formOf returns the form of a code, and whether the kind exists and has the code.
func formOf(kind, code int) (form, bool) {
	if code < 0 || code > maxCode {
		return form{}, false
	}
	f := forms(kind)[code]
	return f, f.word != ""
}

// codeOf returns the code of a word, or 0.
func codeOf(kind int, word string) int {
	for code, f := range forms(kind) {
		if f.word == word {
			return code
		}
	}
	return 0
}

// ValidOp reports whether an operation is valid for a kind.
func ValidOp(kind int, o api.Op) bool {
	f, exists := formOf(kind, o.Code)
	switch {
	case !exists:
		return false
	case f.args == characters:
		return 1 <= len(o.Args) && len(o.Args) <= api.MaxArgs && areCharacters(o.Args)
	}
	return len(o.Args) == f.args && areKeys(o.Args)
}

func areKeys(l []int) bool { return within(l, -api.MaxKey, api.MaxKey) }

func areCharacters(l []int) bool { return within(l, 0, maxCharacter) }

func within(l []int, least, greatest int) bool {
	for _, n := range l {
		if n < least || n > greatest {
			return false
		}
	}
	return true
}

// execute does a valid operation in a valid state, which becomes the state after it.
func execute(s *api.State, o api.Op) api.Res {
	switch s.Kind {
	case api.Dict:
		return executeDict(s, o)
	case api.Heap:
		return executeHeap(s, o)
	case api.Seq:
		return executeSeq(s, o)
	case api.Sets:
		return executeSets(s, o)
	case api.Range:
		return executeRange(s, o)
	}
	return executeText(s, o)
}

func number(n int) api.Res { return api.Res{N: n} }

func failure(err api.Errno) api.Res { return api.Res{Err: err} }

// truth returns 1 or 0 as the result of a question.
func truth(yes bool) api.Res {
	if yes {
		return number(1)
	}
	return number(0)
}
