package term_test

import (
	"slices"
	"strings"
	"testing"

	"afterword/term"
)

// words yields all strings of letters of some length, by letters.
func words(length int, yield func(s string)) {
	if length == 0 {
		yield("")
		return
	}
	words(length-1, func(s string) {
		for c := byte('a'); c <= 'z'; c++ {
			yield(s + string(c))
		}
	})
}

// P2.1: the chapter's examples.
func TestNameExamples(t *testing.T) {
	if term.Name("prev") || !term.Name("abcdefgh") || term.Name("abcdefghi") {
		t.Error(term.Name("prev"), term.Name("abcdefgh"), term.Name("abcdefghi"))
	}
	if s := term.Fresh([]string{"a", "c", "b"}); s != "d" {
		t.Error(s)
	}
}

// P2.1: all strings of up to 4 letters, and all keywords.
func TestShortNames(t *testing.T) {
	keywords := strings.Fields(keywordText)
	if len(keywords) != 34 {
		t.Fatal(len(keywords))
	}
	isKeyword := map[string]bool{}
	for _, k := range keywords {
		isKeyword[k] = true
		if term.Name(k) {
			t.Error(k)
		}
	}
	for n := 1; n <= 4; n++ {
		words(n, func(s string) {
			if term.Name(s) == isKeyword[s] {
				t.Error(s)
			}
		})
	}
}

// P2.1: what is near a keyword, and the lengths.
func TestLongNames(t *testing.T) {
	for _, k := range strings.Fields(keywordText) {
		for _, s := range []string{k + "q", "q" + k, k + k} {
			if term.Name(s) != (len(s) <= 8) {
				t.Error(s)
			}
		}
	}
	for n := range 20 {
		if term.Name(strings.Repeat("z", n)) != (1 <= n && n <= 8) {
			t.Error(n)
		}
	}
	if term.Name(strings.Repeat("a", 1<<20)) {
		t.Error("long")
	}
}

// P2.1: each byte that is no letter from a to z, at each place.
func TestNoLetters(t *testing.T) {
	for b := range 256 {
		for at := range 3 {
			s := []byte("xyz")
			s[at] = byte(b)
			if term.Name(string(s)) != ('a' <= b && b <= 'z') {
				t.Error(b, at)
			}
		}
	}
	for _, s := range []string{"", " ", "A", "Prev", "AT", "a b", "a1", "a_b", "\u00e9", "\u0430", "a\u0301", "\xff"} {
		if term.Name(s) {
			t.Error(s)
		}
	}
}

// P2.1: with all those ahead taken, it is the next one.
func TestFreshInOrder(t *testing.T) {
	var order []string
	for n := 1; n <= 3; n++ {
		words(n, func(s string) {
			if isName(s) {
				order = append(order, s)
			}
		})
	}
	for n := range 900 {
		if s := term.Fresh(order[:n]); s != order[n] {
			t.Error(n, s, order[n])
		}
	}
	if s := term.Fresh(order); s != "aaaa" {
		t.Error(s)
	}
	for _, n := range []int{0, 1, 25, 26, 27, 44, 701, 702, 5000, len(order) - 1} { // one is left out, the rest backwards
		l := slices.Concat(order[:n], order[n+1:])
		slices.Reverse(l)
		if s := term.Fresh(l); s != order[n] {
			t.Error(n, s, order[n])
		}
	}
}

// P2.1: some strings may be any.
func TestFreshOfAny(t *testing.T) {
	for _, x := range []struct {
		l    []string
		want string
	}{
		{nil, "a"},
		{[]string{}, "a"},
		{[]string{"b", "c"}, "a"},
		{[]string{"a", "a", "a"}, "b"},
		{[]string{"", "A", "\xff", "at", "as", strings.Repeat("a", 100)}, "a"},
		{[]string{"aa", "a", "prev", "c"}, "b"},
		{strings.Split("abcdefghijklmnopqrstuvwxyz", ""), "aa"},
		{append(strings.Split("zyxwvutsrqponmlkjihgfedcba", ""), "aa"), "ab"},
	} {
		before := slices.Clone(x.l)
		if s := term.Fresh(x.l); s != x.want {
			t.Error(x.l, s)
		}
		if !slices.Equal(x.l, before) {
			t.Error("changed", x.l, before)
		}
	}
}
