package feed

import (
	"bytes"
	"math"
	"slices"
	"strings"
	"testing"

	"portmanteau/api"
)

func pieces(s *Source) []string {
	var l []string
	for {
		at := s.At()
		piece, ok := s.Next()
		if !ok {
			return l
		}
		if s.At() != at+len(piece) {
			l = append(l, "At is wrong")
		}
		l = append(l, string(piece))
	}
}

func TestPiecesBySizes(t *testing.T) {
	for _, c := range []struct {
		text  string
		sizes []int
		want  string
	}{
		{"abc", []int{2}, "ab c"},
		{"abc", nil, "abc"},
		{"", nil, ""},
		{"", []int{1}, ""},
		{"abcdefgh", []int{1, 3}, "a bcd e fgh"},
		{"abcdefgh", []int{0, -7, 2}, "a b cd e f gh"},
		{"abc", []int{3}, "abc"},
		{"abc", []int{math.MaxInt}, "abc"},
		{"abc", []int{math.MinInt, 1000}, "a bc"},
	} {
		s := NewSource([]byte(c.text), c.sizes...)
		got := strings.Join(pieces(s), " ")
		if got != c.want || s.At() != len(c.text) {
			t.Errorf("%q by %v: %q at %d", c.text, c.sizes, got, s.At())
		}
		if piece, ok := s.Next(); ok || piece != nil || s.At() != len(c.text) {
			t.Errorf("%q: something is behind the end", c.text)
		}
	}
}

func TestPiecesAreAll(t *testing.T) {
	all := []byte(strings.Repeat("0123456789", 100))
	for size := range 40 {
		got := strings.Join(pieces(NewSource(all, size, 7, size/2)), "")
		if got != string(all) {
			t.Error(size, len(got))
		}
	}
}

func TestSourceKeepsNothing(t *testing.T) {
	own, sizes := []byte("abcd"), []int{1, 2}
	s := NewSource(own, sizes...)
	own[0], sizes[0] = 'z', 4
	first, _ := s.Next()
	_ = append(first, "xxxx"...)
	if got := strings.Join(pieces(s), " "); string(first) != "a" || got != "bc d" {
		t.Errorf("%q %q", first, got)
	}
}

func TestSinkUpToItsBound(t *testing.T) {
	k := NewSink(5)
	if n := k.Write([]byte("ab"), nil, []byte("c")); n != 3 || k.Len() != 3 || k.Left() != 2 {
		t.Error(n, k.Len(), k.Left())
	}
	if k.Write() != 0 || k.Write(nil) != 0 {
		t.Error("nothing is taken as something")
	}
	if n := k.Write([]byte("d"), []byte("efg"), []byte("h")); n != 2 || string(k.Bytes()) != "abcde" || k.Left() != 0 {
		t.Error(n, k.Bytes())
	}
	if n := k.Write([]byte("x")); n != 0 || k.Len() != 5 {
		t.Error(n)
	}
	for _, most := range []int{0, -1, math.MinInt} {
		k := NewSink(most)
		if k.Left() != 0 || k.Write([]byte("a")) != 0 || k.Len() != 0 || len(k.Bytes()) != 0 {
			t.Error(most, k.Left())
		}
	}
	if k := NewSink(math.MaxInt); k.Left() != math.MaxInt || k.Write([]byte("a")) != 1 || k.Left() != math.MaxInt-1 {
		t.Error(k.Left())
	}
}

func TestSinkKeepsNothing(t *testing.T) {
	k := NewSink(10)
	own := []byte("ab")
	k.Write(own)
	own[0] = 'z'
	got := k.Bytes()
	got[1] = 'y'
	_ = append(got[:2], "zz"...)
	k.Write([]byte("c"))
	if !bytes.Equal(k.Bytes(), []byte("abc")) {
		t.Errorf("%s", k.Bytes())
	}
}

func TestCounterIsASinkBeside(t *testing.T) {
	c := NewCounter(4)
	var taken []int
	s := api.Sinker(c)
	for _, parts := range [][][]byte{{}, {nil, {}}, {{1}, {2}}, {{3}}, {{4}, {5}}, {{6}}} {
		taken = append(taken, s.Write(parts...))
	}
	if !slices.Equal(taken, []int{0, 0, 2, 1, 1, 0}) || c.Writes() != 3 {
		t.Error(taken, c.Writes())
	}
	if !bytes.Equal(s.Bytes(), []byte{1, 2, 3, 4}) || s.Len() != 4 || s.Left() != 0 {
		t.Error(s.Bytes(), s.Len(), s.Left())
	}
	if c := NewCounter(-3); c.Left() != 0 || c.Writes() != 0 {
		t.Error(c.Left())
	}
	var _ api.Sinker = NewSink(1)
}
