package model_test

import (
	"strconv"
	"strings"
	"testing"

	"heartwood/api"
	"heartwood/model"
)

// P3.5

func sameOp(a, b api.Op) bool {
	if a.Code != b.Code || len(a.Args) != len(b.Args) {
		return false
	}
	for i := range a.Args {
		if a.Args[i] != b.Args[i] {
			return false
		}
	}
	return true
}

// written returns the text of an operation without the help of the package.
func written(kind int, o api.Op) string {
	s := codes(kind)[o.Code-1].word
	for _, n := range o.Args {
		s += " " + strconv.Itoa(n)
	}
	return s
}

func wantText(t *testing.T, kind int, o api.Op, text string) {
	t.Helper()
	before := cloneOp(o)
	if got, err := model.Text(kind, o); got != text || err != api.OK {
		t.Errorf("Text(%d, %v) = %q %v, want %q", kind, o, got, err, text)
	}
	if got, err := model.Parse(kind, text); err != api.OK || !sameOp(got, o) {
		t.Errorf("Parse(%d, %q) = %v %v, want %v", kind, text, got, err, o)
	}
	if !sameOp(o, before) {
		t.Errorf("Text changes %v", before)
	}
}

func TestOperationTexts(t *testing.T) {
	for _, kind := range kinds() {
		for _, o := range rightOps(kind) {
			wantText(t, kind, o, written(kind, o))
		}
	}
	wantText(t, api.Dict, op(api.DictPut, 3, -10), "put 3 -10")
	wantText(t, api.Dict, op(api.DictSize), "size")
	wantText(t, api.Dict, op(api.DictCeiling, -1048576), "ceiling -1048576")
	wantText(t, api.Heap, op(api.HeapDeleteMin), "deletemin")
	wantText(t, api.Heap, op(api.HeapInsert, 0), "insert 0")
	wantText(t, api.Seq, op(api.SeqInsert, 0, 1048576), "insert 0 1048576")
	wantText(t, api.Seq, op(api.SeqReverse, 10, 20), "reverse 10 20")
	wantText(t, api.Sets, op(api.SetsMake), "make")
	wantText(t, api.Sets, op(api.SetsSize, 4), "size 4")
	wantText(t, api.Range, op(api.RangeSum, -1, 2, -3, 4), "sum -1 2 -3 4")
	wantText(t, api.Range, op(api.RangeSize), "size")
	wantText(t, api.Text, op(api.TextFind, 0, 255, 97), "find 0 255 97")
}

func TestTextOfWrongOps(t *testing.T) {
	for _, kind := range kinds() {
		for _, o := range wrongOps(kind) {
			if s, err := model.Text(kind, o); s != "" || err != api.ErrArg {
				t.Errorf("Text(%d, %.100v) = %.100q %v", kind, o, s, err)
			}
		}
		for _, wrong := range wrongKinds() {
			for _, o := range rightOps(kind) {
				if s, err := model.Text(wrong, o); s != "" || err != api.ErrArg {
					t.Errorf("Text(%d, %v) = %q %v", wrong, o, s, err)
				}
			}
		}
	}
}

func wantNoOp(t *testing.T, kind int, s string, wanted api.Errno) {
	t.Helper()
	if o, err := model.Parse(kind, s); err != wanted || o.Code != 0 || len(o.Args) != 0 {
		t.Errorf("Parse(%d, %.100q) = %v %v, want %v", kind, s, o, err, wanted)
	}
}

func TestParseOfWrongKinds(t *testing.T) {
	for _, kind := range wrongKinds() {
		for _, s := range []string{"", "size", "put 1 2", "x", strings.Repeat(" ", 1<<16)} {
			wantNoOp(t, kind, s, api.ErrArg)
		}
	}
}

func TestParseOfWrongTexts(t *testing.T) {
	for _, s := range []string{
		"", " ", "x", "0", "1", "1 2 3", "put", "put 1", "put 1 2 3", "put 1 2 ", " put 1 2", "put  1 2", "put 1  2", "put\t1 2", "put 1\t2", "put 1 2\n", "put 1 2\x00",
		"Put 1 2", "PUT 1 2", "put 01 2", "put 1 02", "put +1 2", "put 1 +2", "put -0 2", "put 1 -0", "put 00 1", "put 1 -01", "put --1 2", "put - 1", "put 1 -", "put 1 2.0", "put 1e1 2", "put 0x1 2", "put 1_0 2", "put a b",
		"put 1048577 0", "put 0 1048577", "put -1048577 0", "put 0 -1048577", "put 99999999999999999999999 1", "put 18446744073709551617 1", "put 1,2", "put(1, 2)", "put1 2", "putt 1 2", "pu 1 2",
		"get", "get 1 2", "get 1 ", "size 0", "size ", " size", "sizes", "insert 1", "deletemin", "make", "rank", "select", "select 1 1", "put 1 2 " + strings.Repeat("3 ", 100), strings.Repeat("put ", 1<<16), strings.Repeat(" ", 1<<20), "put " + strings.Repeat("1", 1<<20) + " 2", "１ 2",
	} {
		wantNoOp(t, api.Dict, s, api.ErrForm)
	}
	for _, s := range []string{"append", "append ", "append -1", "append 256", "append 1 256", "append 1 2 -1", "append 00", "count", "find", "find 1 ", "size 1", "append a", "append 1" + strings.Repeat(" 1", api.MaxArgs), "append 1" + strings.Repeat(" 1", api.MaxArgs+1), "append 1" + strings.Repeat(" 1", 10*api.MaxArgs)} {
		wantNoOp(t, api.Text, s, api.ErrForm)
	}
}

// A text of one kind is a text of another one only if this has its word, with as many arguments.
func TestParseOfOtherKinds(t *testing.T) {
	for _, kind := range kinds() {
		for _, d := range codes(kind) {
			for args := range 6 {
				text := d.word + strings.Repeat(" 5", args)
				for _, other := range kinds() {
					wantParse(t, other, text, d.word, args)
				}
			}
		}
	}
}

// wantParse checks Parse for a word with arguments that are all 5.
func wantParse(t *testing.T, kind int, text, word string, args int) {
	t.Helper()
	for i, d := range codes(kind) {
		if d.word == word && (d.args == args || d.args == manyArgs && args > 0) {
			if o, err := model.Parse(kind, text); err != api.OK || !sameOp(o, op(i+1, repeated(args, 5)...)) {
				t.Errorf("Parse(%d, %q) = %v %v", kind, text, o, err)
			}
			return
		}
	}
	wantNoOp(t, kind, text, api.ErrForm)
}
