package suffixindex_test

import (
	"slices"
	"strings"
	"testing"

	"heartwood/api"
	"heartwood/suffixindex"
)

// numbers yields numbers by a fixed rule.
type numbers int

func (n *numbers) below(limit int) int {
	*n = *n * 48271 % 2147483647
	return int(*n) % limit
}

func (n *numbers) text(length int, letters string) string {
	b := make([]byte, length)
	for i := range b {
		b[i] = letters[n.below(len(letters))]
	}
	return string(b)
}

// texts are texts of many lengths, with few and many different bytes, the least and the greatest ones among them.
func texts() []string {
	n := numbers(7)
	l := []string{"", "a", "aa", "ab", "ba", "banana", "mississippi", "abracadabra", "\x00", "\xff\x00\xff", "abcabcabcabc", "aaaaaaaaaaaaaaaaaaaaaaaaaaaaaaaaa", "zyxwvutsrq"}
	for _, length := range []int{3, 7, 15, 16, 17, 31, 32, 33, 60, 100} {
		l = append(l, n.text(length, "ab"), n.text(length, "abcd"), n.text(length, "\x00\x01\xfe\xff"), n.text(length, "a"), n.text(length, "the quick brown fox"))
	}
	return l
}

// sorted returns all suffixes of a text, also the empty one, in their order.
func sorted(s string) []int {
	var l []int
	for i := range len(s) + 1 {
		l = append(l, i)
	}
	slices.SortFunc(l, func(a, b int) int { return strings.Compare(s[a:], s[b:]) })
	return l
}

func shared(a, b string) int {
	n := 0
	for n < len(a) && n < len(b) && a[n] == b[n] {
		n++
	}
	return n
}

func places(s, p string) []int {
	var l []int
	for i := range len(s) + 1 {
		if strings.HasPrefix(s[i:], p) {
			l = append(l, i)
		}
	}
	return l
}

// P30.1

func TestSuffixes(t *testing.T) {
	for _, s := range texts() {
		order := sorted(s)[1:]
		got, err := suffixindex.Suffixes(s)
		if err != api.OK || !slices.Equal(got, order) {
			t.Fatalf("%q: %v %v, want %v", s, got, err, order)
		}
		var want []int
		for k, i := range order {
			if k == 0 {
				want = append(want, 0)
			} else {
				want = append(want, shared(s[order[k-1]:], s[i:]))
			}
		}
		got, err = suffixindex.Common(s)
		if err != api.OK || !slices.Equal(got, want) {
			t.Fatalf("%q: %v %v, want %v", s, got, err, want)
		}
	}
}

func TestExample(t *testing.T) {
	if l, _ := suffixindex.Suffixes("banana"); !slices.Equal(l, []int{5, 3, 1, 0, 4, 2}) {
		t.Error(l)
	}
	if l, _ := suffixindex.Common("banana"); !slices.Equal(l, []int{0, 1, 3, 0, 0, 2}) {
		t.Error(l)
	}
	if l, at, err := suffixindex.Transform("banana"); err != api.OK || at != 4 || !slices.Equal(l, []int{'a', 'n', 'n', 'b', -1, 'a', 'a'}) {
		t.Error(l, at, err)
	}
	if s, n, err := suffixindex.Repeated("banana"); s != "ana" || n != 2 || err != api.OK {
		t.Error(s, n, err)
	}
}

// P30.2

func TestTransform(t *testing.T) {
	for _, s := range texts() {
		var want []int
		place := -1
		for k, i := range sorted(s) {
			if i == 0 {
				place = k
				want = append(want, -1)
			} else {
				want = append(want, int(s[i-1]))
			}
		}
		l, at, err := suffixindex.Transform(s)
		if err != api.OK || at != place || !slices.Equal(l, want) {
			t.Fatalf("%q: %v %d %v, want %v %d", s, l, at, err, want, place)
		}
		back, err := suffixindex.Inverse(l, at)
		if err != api.OK || back != s || !slices.Equal(l, want) {
			t.Fatalf("%q: %q %v", s, back, err)
		}
		for other := range l {
			if other != at {
				wantNoText(t, l, other, api.ErrNone)
			}
		}
	}
}

func wantNoText(t *testing.T, l []int, at int, want api.Errno) {
	t.Helper()
	if s, err := suffixindex.Inverse(l, at); s != "" || err != want {
		t.Fatalf("Inverse(%.100v, %d) = %q %v, want %v", l, at, s, err, want)
	}
}

// All lists of few numbers: exactly those that are transforms have texts.
func TestInverseOfAll(t *testing.T) {
	transforms := map[[5]int]string{}
	var make func(s string)
	make = func(s string) {
		l, _, _ := suffixindex.Transform(s)
		var key [5]int
		for i := range key {
			key[i] = -9
		}
		copy(key[:], l)
		transforms[key] = s
		if len(s) < 4 {
			for _, c := range "abc" {
				make(s + string(c))
			}
		}
	}
	make("")
	var try func(l []int)
	count := 0
	try = func(l []int) {
		key := [5]int{-9, -9, -9, -9, -9}
		copy(key[:], l)
		for at := range l {
			s, err := suffixindex.Inverse(l, at)
			want, known := transforms[key]
			if known && l[at] == -1 {
				count++
				if s != want || err != api.OK {
					t.Fatal(l, at, s, err)
				}
			} else if s != "" || err != api.ErrNone {
				t.Fatal(l, at, s, err)
			}
		}
		if len(l) < 5 {
			for _, c := range []int{-1, 'a', 'b', 'c'} {
				try(append(l[:len(l):len(l)], c))
			}
		}
	}
	try(nil)
	if count != 121 {
		t.Error(count)
	}
}

func TestInverseErrors(t *testing.T) {
	wantNoText(t, nil, 0, api.ErrRange)
	wantNoText(t, []int{-1}, 1, api.ErrRange)
	wantNoText(t, []int{-1}, -1, api.ErrRange)
	wantNoText(t, []int{'a', -1, 256}, 1, api.ErrRange)
	wantNoText(t, []int{'a', -1, -2}, 1, api.ErrRange)
	wantNoText(t, []int{'a', 'a'}, 1, api.ErrNone)
	wantNoText(t, []int{-1, -1}, 1, api.ErrNone)
	wantNoText(t, []int{-1, 'a'}, 0, api.ErrNone)
	wantNoText(t, make([]int, api.MaxNodes+2), -1, api.ErrFull)
	wantNoText(t, make([]int, api.MaxNodes+1), -1, api.ErrRange)
	wantNoText(t, make([]int, api.MaxNodes+1), 0, api.ErrNone)
	if s, err := suffixindex.Inverse([]int{-1}, 0); s != "" || err != api.OK {
		t.Error(s, err)
	}
}

// P30.3

func TestRepeated(t *testing.T) {
	for _, s := range texts() {
		want := ""
		for i := range s {
			for k := i + 1; k <= len(s); k++ {
				p := s[i:k]
				if len(places(s, p)) > 1 && (len(p) > len(want) || len(p) == len(want) && p < want) {
					want = p
				}
			}
			if len(s) > 40 && i > 30 {
				break
			}
		}
		got, n, err := suffixindex.Repeated(s)
		if len(s) > 40 {
			if err == api.OK && n != len(places(s, got)) || err == api.OK && len(got) < len(want) {
				t.Fatalf("%q: %q %d %v", s, got, n, err)
			}
			continue
		}
		if want == "" {
			if got != "" || n != 0 || err != api.ErrNone {
				t.Fatalf("%q: %q %d %v", s, got, n, err)
			}
		} else if got != want || n != len(places(s, want)) || err != api.OK {
			t.Fatalf("%q: %q %d %v, want %q", s, got, n, err, want)
		}
	}
	for s, want := range map[string]string{"abcXabc": "abc", "xyxzyz": "x", "aaaa": "aaa", "cabdcab": "cab", "bbaabbaa": "bbaa", "\xff\xff": "\xff"} {
		if got, _, err := suffixindex.Repeated(s); got != want || err != api.OK {
			t.Error(s, got, err)
		}
	}
	if got, n, err := suffixindex.Repeated("zabyabxyzab"); got != "zab" || n != 2 || err != api.OK {
		t.Error(got, n, err)
	}
	if got, n, err := suffixindex.Repeated("abxabyab"); got != "ab" || n != 3 || err != api.OK {
		t.Error(got, n, err)
	}
}

// P30.4

func made(t *testing.T, s string) *suffixindex.Index {
	t.Helper()
	x, err := suffixindex.Make(s)
	if err != api.OK || x == nil {
		t.Fatal(err)
	}
	return x
}

func checkPattern(t *testing.T, x *suffixindex.Index, s, p string) {
	t.Helper()
	want := places(s, p)
	n, err1 := x.Count(p)
	l, err2 := x.Locate(p)
	if n != len(want) || !slices.Equal(l, want) || err1 != api.OK || err2 != api.OK {
		t.Fatalf("%q in %q: %d %v %v %v, want %v", p, s, n, l, err1, err2, want)
	}
}

func TestIndexes(t *testing.T) {
	for _, s := range texts() {
		x := made(t, s)
		if x.Len() != len(s) || x.Space() != 9*(len(s)+1) {
			t.Fatal(x.Len(), x.Space())
		}
		patterns := []string{"", "a", "b", "ab", "ana", "zz", "\x00", "\xff", "\xff\x00", s, s + "a", "a" + s}
		for i := range len(s) {
			patterns = append(patterns, s[i:], s[:i], s[i:min(len(s), i+3)], s[i:min(len(s), i+2)]+"b")
		}
		for _, p := range patterns {
			checkPattern(t, x, s, p)
		}
		for from := -1; from <= len(s)+1; from++ {
			for to := -1; to <= len(s)+1; to++ {
				p, err := x.Extract(from, to)
				if from < 0 || from > to || to > len(s) {
					if p != "" || err != api.ErrRange {
						t.Fatal(from, to, p, err)
					}
				} else if p != s[from:to] || err != api.OK {
					t.Fatalf("%q: %d %d %q %v", s, from, to, p, err)
				}
			}
		}
	}
}

// P30.5

func TestLaws(t *testing.T) {
	for _, s := range texts()[:20] {
		x := made(t, s)
		for _, p := range []string{"", "a", "an", "i", "iss", "ab"} {
			n, _ := x.Count(p)
			sum := 0
			for c := range 256 {
				more, err := x.Count(p + string([]byte{byte(c)}))
				if err != api.OK {
					t.Fatal(err)
				}
				sum += more
			}
			if strings.HasSuffix(s, p) {
				sum++
			}
			if n != sum {
				t.Fatalf("%q in %q: %d %d", p, s, n, sum)
			}
		}
		r, n, err := suffixindex.Repeated(s)
		if err != api.OK {
			continue
		}
		if k, _ := x.Count(r); k != n || n < 2 {
			t.Fatal(r, n, k)
		}
		for i := 0; i+len(r)+1 <= len(s); i++ {
			if k, _ := x.Count(s[i : i+len(r)+1]); k != 1 {
				t.Fatalf("%q is longer than %q in %q", s[i:i+len(r)+1], r, s)
			}
		}
	}
}

// The longest texts, whose transform has one element more than they have bytes.
func TestLongTexts(t *testing.T) {
	n := numbers(3)
	for _, letters := range []string{"a", "ab", "abcdefgh", "\x00\xff"} {
		s := n.text(api.MaxNodes, letters)
		x := made(t, s)
		if x.Len() != api.MaxNodes || x.Space() != 9*(api.MaxNodes+1) {
			t.Error(x.Len(), x.Space())
		}
		checkPattern(t, x, s, s[100:104])
		checkPattern(t, x, s, s[4090:])
		checkPattern(t, x, s, s)
		checkPattern(t, x, s, "")
		if p, err := x.Extract(0, api.MaxNodes); p != s || err != api.OK {
			t.Error(err)
		}
		order, err := suffixindex.Suffixes(s)
		if err != api.OK || !slices.Equal(order, sorted(s)[1:]) {
			t.Error(letters, err)
		}
		l, at, _ := suffixindex.Transform(s)
		if back, err := suffixindex.Inverse(l, at); back != s || err != api.OK {
			t.Error(err)
		}
		if r, _, err := suffixindex.Repeated(s); err != api.OK || letters == "a" && len(r) != api.MaxNodes-1 {
			t.Error(len(r), err)
		}
	}
}

func TestErrFull(t *testing.T) {
	long := strings.Repeat("a", api.MaxNodes+1)
	if l, err := suffixindex.Suffixes(long); len(l) != 0 || err != api.ErrFull {
		t.Error(err)
	}
	if l, err := suffixindex.Common(long); len(l) != 0 || err != api.ErrFull {
		t.Error(err)
	}
	if l, at, err := suffixindex.Transform(long); len(l) != 0 || at != 0 || err != api.ErrFull {
		t.Error(err)
	}
	if s, n, err := suffixindex.Repeated(long); s != "" || n != 0 || err != api.ErrFull {
		t.Error(err)
	}
	if x, err := suffixindex.Make(long); x != nil || err != api.ErrFull {
		t.Error(err)
	}
	x := made(t, "banana")
	if n, err := x.Count(long); n != 0 || err != api.ErrFull {
		t.Error(n, err)
	}
	if l, err := x.Locate(long); len(l) != 0 || err != api.ErrFull {
		t.Error(l, err)
	}
	if n, err := x.Count(long[1:]); n != 0 || err != api.OK {
		t.Error(n, err)
	}
	l, _ := x.Locate("a")
	clear(l)
	if l, _ := x.Locate("a"); !slices.Equal(l, []int{1, 3, 5}) {
		t.Error(l)
	}
}

func TestNil(t *testing.T) {
	var x *suffixindex.Index
	for _, x := range []*suffixindex.Index{x, {}} {
		if x.Len() != 0 || x.Space() != 0 {
			t.Error("values")
		}
		if n, err := x.Count("a"); n != 0 || err != api.ErrArg {
			t.Error(n, err)
		}
		if l, err := x.Locate(""); len(l) != 0 || err != api.ErrArg {
			t.Error(l, err)
		}
		if s, err := x.Extract(0, 0); s != "" || err != api.ErrArg {
			t.Error(s, err)
		}
	}
}
