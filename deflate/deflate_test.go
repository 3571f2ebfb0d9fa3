package deflate

import (
	"bytes"
	"compress/flate"
	"io"
	"math"
	"slices"
	"strings"
	"testing"

	"portmanteau/api"
	"portmanteau/bits"
	"portmanteau/huff"
	"portmanteau/inflate"
	"portmanteau/lens"
	"portmanteau/lz"
	"portmanteau/match"
)

func sample(n int) []byte {
	words := strings.Fields("trees packed into archives bits a check pieces lengths of codes rows tokens heads blocks read and written")
	var b []byte
	x := uint32(7)
	for len(b) < n {
		x = x*1664525 + 1013904223
		b = append(b, words[int(x>>16)%len(words)]...)
		b = append(b, byte(x>>24))
	}
	return b[:n]
}

func noise(n int) []byte {
	b := make([]byte, n)
	x := uint64(9)
	for i := range b {
		x = x*6364136223846793005 + 1442695040888963407
		b[i] = byte(x >> 56)
	}
	return b
}

func unpack(t *testing.T, w *bits.Writer) []byte {
	t.Helper()
	size := w.Len()
	out, used, _, e := inflate.All(w.Bytes(), 1<<24)
	if e != api.OK || used != (size+7)/8 {
		t.Fatal(used, size, e)
	}
	return out
}

func TestStored(t *testing.T) {
	for _, skip := range []int{0, 10} {
		for _, n := range []int{0, 1, 300, 65535} {
			w := bits.NewWriter()
			if skip > 0 {
				FixedBlock(w, false)
			}
			b := noise(n)
			if e := Stored(w, b, true); e != api.OK || !bytes.Equal(unpack(t, w), b) {
				t.Error(skip, n, e)
			}
			at := (w.Len() - 32 - 8*n) / 8
			if at != (skip+3+7)/8 || !bytes.HasSuffix(w.Bytes(), b) {
				t.Error(skip, n, at)
			}
		}
	}
	w := bits.NewWriter()
	if e := Stored(w, make([]byte, 65536), true); e != api.ErrArg || w.Len() != 0 {
		t.Error(e, w.Len())
	}
	Stored(w, []byte("ab"), false)
	if !bytes.Equal(w.Bytes(), []byte{0, 2, 0, 0xfd, 0xff, 'a', 'b'}) {
		t.Error(w.Bytes())
	}
}

func tokenRows() map[string][]api.Token {
	var far []api.Token
	for i := range 32768 {
		far = append(far, api.Token{Lit: byte(i)})
	}
	for d := 1; d <= 32768; d += 97 {
		far = append(far, api.Token{Len: 3 + d%256, Dist: d})
	}
	return map[string][]api.Token{
		"none": nil, "one": {{Lit: 200}}, "again": {{Lit: 'a'}, {Len: 258, Dist: 1}}, "far": far, "text": match.Tokens(sample(5000), 7),
		"nought": {{}, {}, {}},
	}
}

func TestBlocksOfTokens(t *testing.T) {
	for name, l := range tokenRows() {
		want, _, _ := lz.Expand(1<<24, l...)
		for _, last := range []bool{true, false} {
			fixed, dynamic := bits.NewWriter(), bits.NewWriter()
			if e := FixedBlock(fixed, last, l...); e != api.OK {
				t.Fatal(name, e)
			}
			if e := Dynamic(dynamic, last, l...); e != api.OK {
				t.Fatal(name, e)
			}
			for kind, w := range map[byte]*bits.Writer{1: fixed, 2: dynamic} {
				head := w.Bytes()[0]
				if head>>1&3 != kind || head&1 == 1 != last {
					t.Error(name, kind, last, head)
				}
				if !last {
					Stored(w, nil, true)
				}
				if !bytes.Equal(unpack(t, w), want) {
					t.Error(name, kind, last)
				}
			}
		}
	}
}

func TestFixedBlockOfNothing(t *testing.T) {
	w := bits.NewWriter()
	FixedBlock(w, true)
	if w.Len() != 10 || !bytes.Equal(w.Bytes(), []byte{3, 0}) {
		t.Error(w.Bytes())
	}
}

func TestDynamicHasTheBestCodes(t *testing.T) {
	for name, l := range tokenRows() {
		w := bits.NewWriter()
		Dynamic(w, true, l...)
		r := bits.NewReader(w.Bytes())
		r.Take(3)
		lit, dist, e := lens.Read(r)
		if e != api.OK {
			t.Fatal(name, e)
		}
		lits, dists := Counts(l...)
		wantLit, _ := huff.Lengths(lits, 15)
		wantDist, _ := huff.Lengths(dists, 15)
		if huff.Cost(lits, lit) != huff.Cost(lits, wantLit) || huff.Cost(dists, dist) != huff.Cost(dists, wantDist) {
			t.Error(name, lit, dist)
		}
	}
}

func TestWrongTokensWriteNothing(t *testing.T) {
	for i, bad := range []api.Token{{Len: 2, Dist: 1}, {Len: 259, Dist: 1}, {Len: 3}, {Len: 3, Dist: 32769}, {Dist: 1}, {Len: 3, Dist: 1, Lit: 1}, {Len: -1}} {
		w := bits.NewWriter()
		w.Put(1, 1)
		if e := FixedBlock(w, true, api.Token{Lit: 1}, bad); e != api.ErrArg || w.Len() != 1 {
			t.Error(i, e, w.Len())
		}
		if e := Dynamic(w, true, api.Token{Lit: 1}, bad); e != api.ErrArg || w.Len() != 1 {
			t.Error(i, e, w.Len())
		}
	}
}

func TestTooManyOfASymbol(t *testing.T) {
	l := make([]api.Token, 1000001)
	w := bits.NewWriter()
	if e := Dynamic(w, true, l...); e != api.ErrArg || w.Len() != 0 {
		t.Error(e, w.Len())
	}
	if e := Dynamic(w, true, l[1:]...); e != api.OK {
		t.Error(e)
	}
}

func TestCounts(t *testing.T) {
	lit, dist := Counts(api.Token{Lit: 9}, api.Token{Lit: 9}, api.Token{Len: 3, Dist: 1}, api.Token{Len: 258, Dist: 32768}, api.Token{Len: 257, Dist: 5}, api.Token{Len: 13, Dist: 6})
	wantLit, wantDist := make([]int, 286), make([]int, 30)
	wantLit[9], wantLit[256], wantLit[257], wantLit[285], wantLit[284], wantLit[266] = 2, 1, 1, 1, 1, 1
	wantDist[0], wantDist[29], wantDist[4] = 1, 1, 2
	if !slices.Equal(lit, wantLit) || !slices.Equal(dist, wantDist) {
		t.Error(lit, dist)
	}
	lit, dist = Counts()
	if len(lit) != 286 || len(dist) != 30 || lit[256] != 1 {
		t.Error(lit, dist)
	}
}

func TestMost(t *testing.T) {
	for _, c := range [][2]int{{0, 10}, {1, 11}, {65535, 65545}, {65536, 65551}, {131070, 131085}, {131071, 131091}} {
		if n := Most(c[0]); n != c[1] {
			t.Error(c, n)
		}
	}
}

func TestAllIsUnpacked(t *testing.T) {
	for name, b := range map[string][]byte{
		"none": nil, "one": {1}, "text": sample(20000), "noise": noise(65535), "more noise": noise(65535*2 + 1), "much": sample(1200000), "much noise": noise(17 * 65535),
		"noughts": make([]byte, 200000), "text, noise": slices.Concat(sample(65000), noise(66000), sample(65000), noise(30)), "runs": bytes.Repeat(slices.Concat(make([]byte, 300), noise(10)), 700),
	} {
		for _, level := range []int{math.MinInt, -1, 0, 1, 6, 7, 9, math.MaxInt} {
			p := All(level, b)
			if len(p) > Most(len(b)) {
				t.Error(name, level, len(p), Most(len(b)))
			}
			out, used, _, e := inflate.All(p, len(b))
			if e != api.OK || used != len(p) || !bytes.Equal(out, b) {
				t.Fatal(name, level, len(out), used, len(p), e)
			}
			if theirs, err := io.ReadAll(flate.NewReader(bytes.NewReader(p))); err != nil || !bytes.Equal(theirs, b) {
				t.Error(name, level, err)
			}
		}
	}
}

func TestLevels(t *testing.T) {
	b := sample(100000)
	stored := All(0, b)
	if len(stored) != len(b)+10 || !bytes.Equal(stored[5:5+65535], b[:65535]) || stored[0] != 0 || stored[5+65535] != 1 {
		t.Error("level 0 does not store", len(stored))
	}
	if !bytes.Equal(All(0), []byte{1, 0, 0, 0xff, 0xff}) || !bytes.Equal(All(-5, nil, nil), All(0)) {
		t.Error(All(0))
	}
	if n := len(All(1, b)); n > len(b)/2 {
		t.Error("level 1 does not pack", n)
	}
}

func TestPartsAreOne(t *testing.T) {
	b := slices.Concat(sample(70000), noise(70000))
	own := bytes.Clone(b)
	for _, level := range []int{0, 1, 9} {
		want := All(level, b)
		for _, size := range []int{1, 1000, 65535} {
			var parts [][]byte
			for part := range slices.Chunk(own, size) {
				parts = append(parts, part, nil)
			}
			if !bytes.Equal(All(level, parts...), want) {
				t.Error(level, size)
			}
		}
	}
	if !bytes.Equal(own, b) {
		t.Error("what was handed in is changed")
	}
}

func TestMatchesAcrossBlocks(t *testing.T) {
	for shift := range 12 {
		b := slices.Concat(noise(65535-shift), []byte("0123456789a"), noise(300), make([]byte, 65535))
		copy(b[100:], "0123456789a")
		copy(b[60000:], "0123456789a")
		p := All(1, b)
		if out, _, _, e := inflate.All(p, len(b)); e != api.OK || !bytes.Equal(out, b) {
			t.Error(shift, e)
		}
	}
}
