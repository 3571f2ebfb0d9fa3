package lz

import (
	"bytes"
	"math"
	"testing"

	"portmanteau/api"
)

var lenBase = []int{3, 4, 5, 6, 7, 8, 9, 10, 11, 13, 15, 17, 19, 23, 27, 31, 35, 43, 51, 59, 67, 83, 99, 115, 131, 163, 195, 227, 258}
var lenExtra = []int{0, 0, 0, 0, 0, 0, 0, 0, 1, 1, 1, 1, 2, 2, 2, 2, 3, 3, 3, 3, 4, 4, 4, 4, 5, 5, 5, 5, 0}
var distBase = []int{1, 2, 3, 4, 5, 7, 9, 13, 17, 25, 33, 49, 65, 97, 129, 193, 257, 385, 513, 769, 1025, 1537, 2049, 3073, 4097, 6145, 8193, 12289, 16385, 24577}
var distExtra = []int{0, 0, 0, 0, 1, 1, 2, 2, 3, 3, 4, 4, 5, 5, 6, 6, 7, 7, 8, 8, 9, 9, 10, 10, 11, 11, 12, 12, 13, 13}

func TestSymbols(t *testing.T) {
	for i, want := range lenBase {
		if base, extra, ok := SymLen(257 + i); base != want || extra != lenExtra[i] || !ok {
			t.Error(257+i, base, extra, ok)
		}
	}
	for i, want := range distBase {
		if base, extra, ok := SymDist(i); base != want || extra != distExtra[i] || !ok {
			t.Error(i, base, extra, ok)
		}
	}
	for _, sym := range []int{math.MinInt, -1, 0, 256, 286, math.MaxInt} {
		if base, extra, ok := SymLen(sym); base != 0 || extra != 0 || ok {
			t.Error("length", sym, base, extra, ok)
		}
	}
	for _, sym := range []int{math.MinInt, -1, 30, 31, math.MaxInt} {
		if base, extra, ok := SymDist(sym); base != 0 || extra != 0 || ok {
			t.Error("distance", sym, base, extra, ok)
		}
	}
}

func TestSymbolsOfNumbers(t *testing.T) {
	sym := 0
	for n := 3; n <= 258; n++ {
		for sym+1 < len(lenBase) && lenBase[sym+1] <= n {
			sym++
		}
		if s, extra, v := LenSym(n); s != 257+sym || extra != lenExtra[sym] || int(v) != n-lenBase[sym] {
			t.Error(n, s, extra, v)
		}
	}
	sym = 0
	for d := 1; d <= 32768; d++ {
		for sym+1 < len(distBase) && distBase[sym+1] <= d {
			sym++
		}
		if s, extra, v := DistSym(d); s != sym || extra != distExtra[sym] || int(v) != d-distBase[sym] {
			t.Fatal(d, s, extra, v)
		}
	}
	for _, n := range []int{math.MinInt, -1, 0, 1, 2, 259, math.MaxInt} {
		if s, extra, v := LenSym(n); s != 0 || extra != 0 || v != 0 {
			t.Error("length", n, s, extra, v)
		}
	}
	for _, d := range []int{math.MinInt, -1, 0, 32769, math.MaxInt} {
		if s, extra, v := DistSym(d); s != 0 || extra != 0 || v != 0 {
			t.Error("distance", d, s, extra, v)
		}
	}
}

func TestOk(t *testing.T) {
	for i, c := range []struct {
		t    api.Token
		want bool
	}{
		{api.Token{}, true}, {api.Token{Lit: 255}, true}, {api.Token{Dist: 1}, false}, {api.Token{Len: 3, Dist: 1}, true}, {api.Token{Len: 258, Dist: 32768}, true},
		{api.Token{Len: 2, Dist: 1}, false}, {api.Token{Len: 259, Dist: 1}, false}, {api.Token{Len: 3, Dist: 0}, false}, {api.Token{Len: 3, Dist: 32769}, false},
		{api.Token{Len: 3, Dist: 1, Lit: 1}, false}, {api.Token{Len: -3, Dist: 1}, false}, {api.Token{Len: 3, Dist: -1}, false},
	} {
		if Ok(c.t) != c.want {
			t.Error(i, c.t)
		}
	}
}

func TestPut(t *testing.T) {
	for i, c := range []struct {
		b    string
		t    api.Token
		most int
		want string
		e    api.Errno
	}{
		{"", api.Token{Lit: 'x'}, 1, "x", api.OK}, {"abc", api.Token{Lit: 0}, 4, "abc\x00", api.OK}, {"abc", api.Token{Lit: 'd'}, 3, "", api.ErrQuota},
		{"abc", api.Token{Len: 3, Dist: 3}, 6, "abcabc", api.OK}, {"abc", api.Token{Len: 7, Dist: 3}, 10, "abcabcabca", api.OK}, {"abc", api.Token{Len: 4, Dist: 1}, 99, "abccccc", api.OK},
		{"abc", api.Token{Len: 3, Dist: 3}, 5, "", api.ErrQuota}, {"abc", api.Token{Len: 3, Dist: 4}, 5, "", api.ErrDist}, {"", api.Token{Len: 3, Dist: 1}, 99, "", api.ErrDist},
		{"", api.Token{Len: 2, Dist: 9}, 0, "", api.ErrArg}, {"", api.Token{}, 0, "", api.ErrQuota}, {"", api.Token{}, -1, "", api.ErrQuota}, {"", api.Token{}, math.MinInt, "", api.ErrQuota}, {"a", api.Token{}, math.MinInt, "", api.ErrQuota},
		{"abc", api.Token{Lit: 'd'}, math.MaxInt, "abcd", api.OK},
	} {
		b, e := Put([]byte(c.b), c.t, c.most)
		if string(b) != c.want || e != c.e || e != api.OK && b != nil {
			t.Errorf("%d: %q %v", i, b, e)
		}
	}
	room := append(make([]byte, 0, 100), "abc"...)
	b, _ := Put(room, api.Token{Lit: 'd'}, 100)
	if !bytes.Equal(room[:4], []byte("abc\x00")) {
		t.Error("the spare room behind b was written")
	}
	b[0] = 'z'
	if room[0] != 'a' {
		t.Error("b is shared")
	}
}

func TestExpand(t *testing.T) {
	a, again, far := api.Token{Lit: 'a'}, api.Token{Len: 3, Dist: 1}, api.Token{Len: 3, Dist: 5}
	for i, c := range []struct {
		most int
		l    []api.Token
		want string
		n    int
		e    api.Errno
	}{
		{9, nil, "", 0, api.OK}, {9, []api.Token{a, again}, "aaaa", 2, api.OK}, {4, []api.Token{a, again}, "aaaa", 2, api.OK}, {3, []api.Token{a, again, a}, "a", 1, api.ErrQuota},
		{9, []api.Token{a, again, far, a}, "aaaa", 2, api.ErrDist}, {9, []api.Token{a, {Len: 1}, again}, "a", 1, api.ErrArg}, {9, []api.Token{again}, "", 0, api.ErrDist}, {-1, nil, "", 0, api.OK}, {-1, []api.Token{a}, "", 0, api.ErrQuota},
		{9, []api.Token{{Lit: 'x'}, {Lit: 'y'}, {Len: 5, Dist: 2}, a}, "xyxyxyxa", 4, api.OK},
	} {
		if b, n, e := Expand(c.most, c.l...); string(b) != c.want || n != c.n || e != c.e {
			t.Errorf("%d: %q %d %v", i, b, n, e)
		}
	}
}

func TestFarBack(t *testing.T) {
	var l []api.Token
	for i := range 32768 {
		l = append(l, api.Token{Lit: byte(i * 7 >> 3)})
	}
	l = append(l, api.Token{Len: 258, Dist: 32768})
	b, n, e := Expand(40000, l...)
	if e != api.OK || n != 32769 || len(b) != 33026 || !bytes.Equal(b[32768:], b[:258]) {
		t.Error(n, e, len(b))
	}
}
