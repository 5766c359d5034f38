package bitvector_test

import (
	"slices"
	"strings"
	"testing"

	"heartwood/api"
	"heartwood/bitvector"
)

func bits(s string) []bool {
	var l []bool
	for _, c := range s {
		l = append(l, c == '1')
	}
	return l
}

func made(t *testing.T, l []bool) *bitvector.Vector {
	t.Helper()
	v, err := bitvector.Make(l)
	if err != api.OK || v == nil {
		t.Fatal(err)
	}
	return v
}

// numbers yields numbers by a fixed rule.
type numbers int

func (n *numbers) below(limit int) int {
	*n = *n * 48271 % 2147483647
	return int(*n) % limit
}

// vectors are bits of many lengths around those of bytes and words, with few, many, and all ones.
func vectors() [][]bool {
	n := numbers(5)
	var l [][]bool
	for _, size := range []int{0, 1, 2, 7, 8, 9, 31, 32, 33, 63, 64, 65, 127, 128, 129, 200, 511, 512, 513, 1000} {
		for _, share := range []int{0, 1, 10, 50, 90, 99, 100} {
			v := make([]bool, size)
			for i := range v {
				v[i] = n.below(100) < share
			}
			l = append(l, v)
		}
	}
	return l
}

// P21.1 to P21.3: everything that is asked of a vector, counted one by one.
func TestVectors(t *testing.T) {
	for _, l := range vectors() {
		v := made(t, l)
		count := map[bool]int{}
		at := map[bool][]int{}
		for i := 0; i <= len(l); i++ {
			for _, bit := range []bool{false, true} {
				if r, err := v.Rank(bit, i); r != count[bit] || err != api.OK {
					t.Fatal(len(l), bit, i, r, err)
				}
				checkNeighbours(t, v, l, bit, i)
			}
			if i < len(l) {
				if b, err := v.Get(i); b != l[i] || err != api.OK {
					t.Fatal(len(l), i, b, err)
				}
				count[l[i]]++
				at[l[i]] = append(at[l[i]], i)
			}
		}
		if v.Len() != len(l) || v.Ones() != count[true] || !slices.Equal(v.Bits(), l) {
			t.Fatal(v.Len(), v.Ones())
		}
		for _, bit := range []bool{false, true} {
			for k, want := range at[bit] {
				if i, err := v.Select(bit, k); i != want || err != api.OK {
					t.Fatal(len(l), bit, k, i, err)
				}
			}
			for _, k := range []int{count[bit], count[bit] + 1, 1 << 60} {
				if i, err := v.Select(bit, k); i != 0 || err != api.ErrNone {
					t.Fatal(len(l), bit, k, i, err)
				}
			}
			for _, k := range []int{-1, -1 << 63} {
				if i, err := v.Select(bit, k); i != 0 || err != api.ErrRange {
					t.Fatal(len(l), bit, k, i, err)
				}
			}
		}
		checkRanges(t, v, len(l))
	}
}

func checkNeighbours(t *testing.T, v *bitvector.Vector, l []bool, bit bool, i int) {
	t.Helper()
	want, err := slices.Index(l[i:], bit), api.OK
	if want += i; want < i {
		want, err = 0, api.ErrNone
	}
	if k, e := v.Next(bit, i); k != want || e != err {
		t.Fatal("Next", bit, i, k, e)
	}
	want, err = 0, api.ErrNone
	for k, b := range l[:i] {
		if b == bit {
			want, err = k, api.OK
		}
	}
	if k, e := v.Prev(bit, i); k != want || e != err {
		t.Fatal("Prev", bit, i, k, e)
	}
}

func checkRanges(t *testing.T, v *bitvector.Vector, n int) {
	t.Helper()
	for _, i := range []int{-1, n + 1, n + 64, 1 << 60, -1 << 63} {
		for _, bit := range []bool{false, true} {
			for _, f := range []func(bool, int) (int, api.Errno){v.Rank, v.Next, v.Prev} {
				if k, err := f(bit, i); k != 0 || err != api.ErrRange {
					t.Fatal(n, i, k, err)
				}
			}
		}
		if b, err := v.Get(i); b || err != api.ErrRange {
			t.Fatal(n, i, b, err)
		}
	}
	if b, err := v.Get(n); b || err != api.ErrRange {
		t.Fatal(n, b, err)
	}
}

func TestExample(t *testing.T) {
	v := made(t, bits("01101"))
	if r, _ := v.Rank(true, 3); r != 2 {
		t.Error(r)
	}
	if i, _ := v.Select(true, 2); i != 4 {
		t.Error(i)
	}
	if !slices.Equal(v.Runs(), []int{1, 2, 1, 1}) || !slices.Equal(v.Encode(), []byte{0, 0, 0, 5, 0b01101000}) {
		t.Error(v.Runs(), v.Encode())
	}
}

// P21.3: Runs

func TestRuns(t *testing.T) {
	for s, want := range map[string][]int{"": nil, "0": {1}, "1": {0, 1}, "000": {3}, "111": {0, 3}, "10": {0, 1, 1}, "0101": {1, 1, 1, 1}, "1100": {0, 2, 2}} {
		if l := made(t, bits(s)).Runs(); !slices.Equal(l, want) {
			t.Error(s, l)
		}
	}
	for _, l := range vectors() {
		var back []bool
		for i, n := range made(t, l).Runs() {
			if n == 0 && i > 0 {
				t.Fatal("an empty run")
			}
			back = append(back, slices.Repeat([]bool{i%2 == 1}, n)...)
		}
		if !slices.Equal(back, l) {
			t.Fatal(len(l))
		}
	}
}

// P21.4

func TestCodes(t *testing.T) {
	for _, l := range vectors() {
		code := made(t, l).Encode()
		want := []byte{0, 0, byte(len(l) >> 8), byte(len(l))}
		for i := 0; i < len(l); i += 8 {
			b := byte(0)
			for k := range 8 {
				if i+k < len(l) && l[i+k] {
					b += 1 << (7 - k)
				}
			}
			want = append(want, b)
		}
		if !slices.Equal(code, want) {
			t.Fatal(len(l), code, want)
		}
		v, err := bitvector.Decode(code)
		if err != api.OK || !slices.Equal(v.Bits(), l) || v.Ones() != made(t, l).Ones() {
			t.Fatal(len(l), err)
		}
		if len(l) > 0 {
			wantNoDecode(t, code[:len(code)-1], api.ErrEnd)
		}
		wantNoDecode(t, append(slices.Clone(code), 0), api.ErrForm)
		for k := range (8 - len(l)%8) % 8 {
			bad := slices.Clone(code)
			bad[len(bad)-1] |= 1 << k
			wantNoDecode(t, bad, api.ErrForm)
			wantNoDecode(t, append(bad, 0), api.ErrForm)
		}
	}
}

func wantNoDecode(t *testing.T, b []byte, want api.Errno) {
	t.Helper()
	if v, err := bitvector.Decode(b); v != nil || err != want {
		t.Fatalf("Decode(%.40v) = %v, want %v", b, err, want)
	}
}

func TestDecodeErrors(t *testing.T) {
	for _, b := range [][]byte{nil, {}, {0}, {0, 0}, {0, 0, 0}, {255, 255, 255}, {0, 0, 0, 1}, {0, 1, 0, 0}, {0, 0, 0, 9, 0}} {
		wantNoDecode(t, b, api.ErrEnd)
	}
	for _, b := range [][]byte{{0, 1, 0, 1}, {255, 255, 255, 255}, {1, 0, 0, 0, 0}, {128, 0, 0, 0}} {
		wantNoDecode(t, b, api.ErrFull)
	}
	wantNoDecode(t, []byte{0, 0, 0, 0, 0}, api.ErrForm)
	wantNoDecode(t, []byte{0, 0, 0, 1, 64}, api.ErrForm)
	if v, err := bitvector.Decode([]byte{0, 0, 0, 0}); err != api.OK || v.Len() != 0 || v.Ones() != 0 {
		t.Error(err)
	}
}

// P21.1: limits

func TestLimits(t *testing.T) {
	l := make([]bool, api.MaxBits)
	l[0], l[777], l[api.MaxBits-1] = true, true, true
	v := made(t, l)
	if i, err := v.Select(true, 2); i != api.MaxBits-1 || err != api.OK || v.Len() != api.MaxBits || v.Ones() != 3 {
		t.Error(i, err)
	}
	if r, err := v.Rank(false, api.MaxBits); r != api.MaxBits-3 || err != api.OK {
		t.Error(r, err)
	}
	code := v.Encode()
	if w, err := bitvector.Decode(code); err != api.OK || !slices.Equal(w.Bits(), l) || !slices.Equal(code[:4], []byte{0, 1, 0, 0}) {
		t.Error(err)
	}
	if v, err := bitvector.Make(append(l, false)); v != nil || err != api.ErrFull {
		t.Error(err)
	}
}

func TestSharing(t *testing.T) {
	l := bits(strings.Repeat("0110", 40))
	v := made(t, l)
	clear(l)
	b := v.Bits()
	clear(b)
	code := v.Encode()
	clear(code)
	clear(v.Runs())
	if !slices.Equal(v.Bits(), bits(strings.Repeat("0110", 40))) || v.Ones() != 80 {
		t.Error("memory is shared")
	}
	code = v.Encode()
	w, _ := bitvector.Decode(code)
	clear(code)
	if !slices.Equal(w.Bits(), v.Bits()) {
		t.Error("memory is shared")
	}
}

func TestNil(t *testing.T) {
	var v *bitvector.Vector
	if v.Len() != 0 || v.Ones() != 0 || len(v.Bits()) != 0 || len(v.Runs()) != 0 || len(v.Encode()) != 0 {
		t.Error("values")
	}
	for _, i := range []int{-1, 0, 1} {
		if b, err := v.Get(i); b || err != api.ErrArg {
			t.Error(b, err)
		}
		for _, f := range []func(bool, int) (int, api.Errno){v.Rank, v.Next, v.Prev, v.Select} {
			if k, err := f(true, i); k != 0 || err != api.ErrArg {
				t.Error(k, err)
			}
		}
	}
	// The zero vector is one without bits.
	v = &bitvector.Vector{}
	if r, err := v.Rank(true, 0); r != 0 || err != api.OK || v.Ones() != 0 || !slices.Equal(v.Encode(), []byte{0, 0, 0, 0}) {
		t.Error(r, err)
	}
	if _, err := v.Select(false, 0); err != api.ErrNone {
		t.Error(err)
	}
}
