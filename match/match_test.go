package match

import (
	"bytes"
	"math"
	"slices"
	"strings"
	"testing"

	"portmanteau/api"
	"portmanteau/lz"
)

// plain is Longest as the document tells it.
func plain(b []byte, at int) (n, dist int) {
	if at < 0 || at >= len(b) {
		return 0, 0
	}
	for d := 1; d <= at && d <= 32768; d++ {
		k := 0
		for k < 258 && at+k < len(b) && b[at+k] == b[at+k-d] {
			k++
		}
		if k >= 3 && k > n {
			n, dist = k, d
		}
	}
	return n, dist
}

// plainTokens is Tokens as the document tells it.
func plainTokens(b []byte, level int) []api.Token {
	var l []api.Token
	for at := 0; at < len(b); {
		n, dist := plain(b, at)
		if level >= 7 {
			if next, _ := plain(b, at+1); next > n {
				n = 0
			}
		}
		if level < 1 || n == 0 {
			l = append(l, api.Token{Lit: b[at]})
			at++
			continue
		}
		l = append(l, api.Token{Len: n, Dist: dist})
		at += n
	}
	return l
}

func mixed(n, letters int, seed uint32) []byte {
	b := make([]byte, n)
	for i := range b {
		seed = seed*1664525 + 1013904223
		b[i] = byte(int(seed>>16) % letters)
	}
	return b
}

func samples() map[string][]byte {
	return map[string][]byte{
		"none": nil, "one": {7}, "two": {7, 7}, "three": {7, 7, 7}, "four": {7, 7, 7, 7}, "noughts": make([]byte, 700),
		"text":    []byte(strings.Repeat("how much wood would a woodchuck chuck, if a woodchuck could chuck wood? ", 5)),
		"two 1":   mixed(1500, 2, 1),
		"three 1": mixed(1500, 3, 2),
		"many":    mixed(1500, 256, 3),
		"runs":    bytes.Repeat(append(make([]byte, 40), mixed(9, 9, 4)...), 30),
		"lazy":    []byte("abc bcdef abcdef xbcdefg abcdefg"),
		"late":    []byte("abcdefgh1abcdefg2abcdef3abcde4abcd5abc6abcdefghi"),
	}
}

func TestLongest(t *testing.T) {
	for name, b := range samples() {
		for at := -1; at <= len(b)+1; at++ {
			n, dist := Longest(b, at)
			if wn, wd := plain(b, at); n != wn || dist != wd {
				t.Fatal(name, at, n, dist, wn, wd)
			}
		}
	}
	for i, c := range []struct {
		text        string
		at, n, dist int
	}{
		{"aaaa", 1, 3, 1}, {"aaaa", 0, 0, 0}, {"aaaa", 2, 0, 0}, {"abcabc", 3, 3, 3}, {"abcxabcabc", 7, 3, 3}, {"abcdxabcabcd", 8, 4, 8},
		{"abab", 2, 0, 0}, {"abc", math.MinInt, 0, 0}, {"abc", math.MaxInt, 0, 0}, {"", 0, 0, 0},
	} {
		if n, dist := Longest([]byte(c.text), c.at); n != c.n || dist != c.dist {
			t.Error(i, n, dist)
		}
	}
}

func TestBoundsOfLongest(t *testing.T) {
	b := make([]byte, 600)
	if n, dist := Longest(b, 1); n != 258 || dist != 1 {
		t.Error("more than 258", n, dist)
	}
	if n, dist := Longest(b, 597); n != 3 || dist != 1 {
		t.Error("up to the end", n, dist)
	}
	for _, gap := range []int{32765, 32766} {
		b := append([]byte("xyz"), make([]byte, gap)...)
		b = append(b, "xyz"...)
		n, dist := Longest(b, gap+3)
		l := Tokens(b, 1)
		last := l[len(l)-1]
		if gap == 32765 && (n != 3 || dist != 32768 || last != api.Token{Len: 3, Dist: 32768}) {
			t.Error("just near enough", n, dist, last)
		}
		if gap == 32766 && (n != 0 || dist != 0 || last != api.Token{Lit: 'z'}) {
			t.Error("too far", n, dist, last)
		}
	}
}

func TestTokens(t *testing.T) {
	for name, b := range samples() {
		own := bytes.Clone(b)
		for _, level := range []int{math.MinInt, -1, 0, 1, 2, 6, 7, 8, 9, 100, math.MaxInt} {
			l := Tokens(own, level)
			if !slices.Equal(l, plainTokens(b, level)) {
				t.Error(name, level)
			}
			if back, n, e := lz.Expand(len(b), l...); e != api.OK || n != len(l) || !bytes.Equal(back, b) {
				t.Error(name, level, n, e)
			}
		}
		if !bytes.Equal(own, b) {
			t.Error(name, "was changed")
		}
	}
	if l := Tokens([]byte("aaaa"), 1); !slices.Equal(l, []api.Token{{Lit: 'a'}, {Len: 3, Dist: 1}}) {
		t.Error(l)
	}
}

func TestLevelsDiffer(t *testing.T) {
	b := []byte("abc bcdef abcdef")
	// At "abcdef" only "abc" was there, but "bcdef" behind its first byte is longer.
	want := []api.Token{{Lit: 'a'}, {Len: 5, Dist: 7}}
	quick, lazy := Tokens(b, 6), Tokens(b, 7)
	if !slices.Equal(lazy[len(lazy)-2:], want) || slices.Equal(quick, lazy) {
		t.Error(lazy, quick)
	}
}

func TestFarPlacesAreForgotten(t *testing.T) {
	for _, letters := range []int{2, 4, 200} {
		b := mixed(70000, letters, 9)
		for _, level := range []int{1, 7} {
			l := Tokens(b, level)
			if back, _, e := lz.Expand(len(b), l...); e != api.OK || !bytes.Equal(back, b) {
				t.Error(letters, level, e)
			}
			at := 0
			for i, x := range l {
				if i%199 == 0 && level < 7 {
					if n, dist := plain(b, at); n != x.Len || dist != x.Dist {
						t.Error(letters, level, at, n, dist, x)
					}
				}
				at += max(x.Len, 1)
			}
			for at := 40000; at < len(b); at += 1999 {
				n, dist := Longest(b, at)
				if wn, wd := plain(b, at); n != wn || dist != wd {
					t.Error(letters, at, n, dist)
				}
			}
		}
	}
}
