package inflate

import (
	"bytes"
	"compress/flate"
	"io"
	"math"
	"slices"
	"strings"
	"testing"

	"portmanteau/api"
	"portmanteau/bits"
	"portmanteau/canon"
	"portmanteau/lens"
	"portmanteau/lz"
)

func packed(b []byte, level int) []byte {
	var out bytes.Buffer
	w, _ := flate.NewWriter(&out, level)
	w.Write(b)
	w.Close()
	return out.Bytes()
}

func sample(n int) []byte {
	words := strings.Fields("trees packed into archives bits a check pieces lengths of codes rows tokens heads blocks read and written")
	var b []byte
	x := uint32(7)
	for len(b) < n {
		x = x*1664525 + 1013904223
		b = append(b, words[int(x>>16)%len(words)]...)
		b = append(b, byte(x>>24))
	}
	return b[:n]
}

// maker writes blocks bit by bit, right or wrong.
type maker struct{ *bits.Writer }

func (m maker) fixed(syms ...int) maker {
	lit, _ := Fixed()
	canon.Write(m.Writer, lit, syms...)
	return m
}

func (m maker) dist(syms ...int) maker {
	_, dist := Fixed()
	canon.Write(m.Writer, dist, syms...)
	return m
}

func (m maker) put(pairs ...int) maker {
	for i := 0; i < len(pairs); i += 2 {
		m.Put(uint32(pairs[i]), pairs[i+1])
	}
	return m
}

func start(pairs ...int) maker {
	return maker{bits.NewWriter()}.put(pairs...)
}

func (m maker) head(lit, dist []int) maker {
	lens.Write(m.Writer, lit, dist)
	return m
}

func lone(sym, size int) []int {
	l := make([]int, size)
	l[sym] = 1
	return l
}

type answer struct {
	b    []byte
	most int
	out  string
	used int
	at   int
	e    api.Errno
}

func answers() []answer {
	pair := lone(256, 286)
	pair[257] = 1
	return []answer{
		{[]byte{3, 0}, 9, "", 2, 0, api.OK},
		{[]byte{3, 0, 0xff}, 9, "", 2, 0, api.OK},
		{nil, 9, "", 0, 0, api.ErrEnd},
		{[]byte{3}, 9, "", 0, 1, api.ErrEnd},
		{[]byte{1, 0, 0, 0xff, 0xff}, 9, "", 5, 0, api.OK},
		{[]byte{0xf9, 3, 0, 0xfc, 0xff, 'a', 'b', 'c'}, 9, "abc", 8, 0, api.OK},
		{[]byte{1, 3, 0, 0xfc, 0xff, 'a', 'b'}, 9, "ab", 0, 7, api.ErrEnd},
		{[]byte{1, 3, 0, 0xfc, 0xff, 'a', 'b', 'c'}, 2, "ab", 0, 7, api.ErrQuota},
		{[]byte{1, 3, 0, 0xfc, 0xff, 'a', 'b'}, 2, "ab", 0, 7, api.ErrEnd},
		{[]byte{1, 3, 0, 0xfc, 0xff, 'a', 'b', 'c'}, -1, "", 0, 5, api.ErrQuota},
		{[]byte{1, 3, 0, 0xfc, 0xfe, 'a', 'b', 'c'}, 9, "", 0, 0, api.ErrHead},
		{[]byte{1, 3, 0, 0xfd}, 9, "", 0, 4, api.ErrEnd},
		{[]byte{7}, 9, "", 0, 0, api.ErrHead},
		{[]byte{0, 1, 0, 0xfe, 0xff, 'x', 6}, 9, "x", 0, 6, api.ErrHead},
		// A stored block whose first three bits end a byte begins its length with the next one.
		{append(start(0, 1, 1, 2).fixed(144, 145, 146, 256).put(1, 3).Bytes(), 1, 0, 0, 0), 9, "\x90\x91\x92", 0, 5, api.ErrHead},
		{append(start(0, 1, 1, 2).fixed(144, 145, 146, 256).put(1, 3).Bytes(), 1, 0, 0xfe, 0xff, 7), 9, "\x90\x91\x92\x07", 10, 0, api.OK},
		{start(1, 1, 1, 2).fixed('a', 'b', 256).Bytes(), 9, "ab", 4, 0, api.OK},
		{start(1, 1, 1, 2).fixed('a', 'b', 256).Bytes(), 2, "ab", 4, 0, api.OK},
		{start(1, 1, 1, 2).fixed('a', 'b', 256).Bytes(), 1, "a", 0, 1, api.ErrQuota},
		{start(1, 1, 1, 2).fixed('a', 257).dist(0).fixed(256).Bytes(), 9, "aaaa", 4, 0, api.OK},
		{start(1, 1, 1, 2).fixed('a', 257).dist(0).fixed(256).Bytes(), 3, "a", 0, 1, api.ErrQuota},
		{start(1, 1, 1, 2).fixed('a', 257).dist(1).fixed(256).Bytes(), 9, "a", 0, 1, api.ErrDist},
		{start(1, 1, 1, 2).fixed('a', 257).dist(1).fixed(256).Bytes(), 1, "a", 0, 1, api.ErrDist},
		{start(1, 1, 1, 2).fixed('a', 286).Bytes(), 9, "a", 0, 1, api.ErrCode},
		{start(1, 1, 1, 2).fixed('a', 287).Bytes(), 9, "a", 0, 1, api.ErrCode},
		{start(1, 1, 1, 2).fixed('a', 257).dist(30).Bytes(), 9, "a", 0, 1, api.ErrCode},
		{start(1, 1, 1, 2).fixed('a', 257).dist(31).Bytes(), 9, "a", 0, 1, api.ErrCode},
		{start(1, 1, 1, 2).fixed('x', 'y', 265).put(1, 1).dist(1).fixed(256).Bytes(), 99, "xyxyxyxyxyxyxy", 5, 0, api.OK},
		// Two blocks, the last one's rest passed over.
		{append(start(0, 1, 1, 2).fixed('a', 256).put(1, 1, 0, 2).Bytes(), 1, 0, 0xfe, 0xff, 'b', 'c'), 9, "ab", 8, 0, api.OK},
		// Dynamic blocks: of the end alone; without distances, where one is told; with one distance, where another is told.
		{start(1, 1, 2, 2).head(lone(256, 257), []int{0}).put(0, 1).Bytes(), 9, "", len(start(1, 1, 2, 2).head(lone(256, 257), []int{0}).put(0, 1).Bytes()), 0, api.OK},
		{start(1, 1, 2, 2).head(lone(256, 257), []int{0}).put(1, 1).Bytes(), 9, "", 0, start(1, 1, 2, 2).head(lone(256, 257), []int{0}).Len() / 8, api.ErrCode},
		{start(1, 1, 2, 2).head(pair, []int{0}).put(1, 1).Bytes(), 9, "", 0, start(1, 1, 2, 2).head(pair, []int{0}).Len() / 8, api.ErrCode},
		{start(1, 1, 2, 2).head(pair, []int{1}).put(3, 2, 0xff, 8).Bytes(), 9, "", 0, start(1, 1, 2, 2).head(pair, []int{1}).Len() / 8, api.ErrCode},
		{start(1, 1, 2, 2).head(pair, []int{1}).put(1, 2, 0, 8).Bytes(), 9, "", 0, start(1, 1, 2, 2).head(pair, []int{1}).Len() / 8, api.ErrDist},
		// Heads that are none, in the byte of the head's first bit.
		{start(1, 1, 2, 2, 31, 5, 0, 9, 0, 30).Bytes(), 9, "", 0, 0, api.ErrHead},
		{start(0, 1, 1, 2).fixed('a', 256).put(1, 1, 2, 2, 30, 5, 0, 9).Bytes(), 9, "a", 0, 2, api.ErrHead},
	}
}

func check(t *testing.T, i int, c answer, out []byte, used, at int, e api.Errno) {
	t.Helper()
	if string(out) != c.out || used != c.used || at != c.at || e != c.e {
		t.Errorf("%d: %q used %d at %d: %v; not %q used %d at %d: %v", i, out, used, at, e, c.out, c.used, c.at, c.e)
	}
}

func TestAll(t *testing.T) {
	for i, c := range answers() {
		out, used, at, e := All(c.b, c.most)
		check(t, i, c, out, used, at, e)
	}
}

func TestByteByByte(t *testing.T) {
	for i, c := range answers() {
		f := New(c.most)
		for n := range c.b {
			f.Feed(c.b[n : n+1])
			done, _, _, e := f.State()
			if !done && e == api.ErrEnd {
				t.Error(i, "the end is told ahead of Close")
			}
		}
		f.Close()
		_, used, at, e := f.State()
		check(t, i, c, f.Out(), used, at, e)
	}
}

func TestFixed(t *testing.T) {
	want := slices.Concat(slices.Repeat([]int{8}, 144), slices.Repeat([]int{9}, 112), slices.Repeat([]int{7}, 24), slices.Repeat([]int{8}, 8))
	lit, dist := Fixed()
	if !slices.Equal(lit, want) || !slices.Equal(dist, slices.Repeat([]int{5}, 32)) {
		t.Error(lit, dist)
	}
}

func TestWhatOthersPacked(t *testing.T) {
	for _, n := range []int{0, 1, 100, 65535, 65536, 300000} {
		b := sample(n)
		for _, level := range []int{flate.HuffmanOnly, 0, 1, 6, 9} {
			p := packed(b, level)
			out, used, at, e := All(append(slices.Clone(p), 9, 9), n)
			if !bytes.Equal(out, b) || used != len(p) || at != 0 || e != api.OK {
				t.Fatal(n, level, len(out), used, at, e)
			}
			if out, _, _, e := All(p, n-1); n > 0 && (e != api.ErrQuota || !bytes.HasPrefix(b, out)) {
				t.Fatal(n, level, e)
			}
		}
	}
}

func TestInWhateverPartsTheSame(t *testing.T) {
	b := sample(3000)
	for _, level := range []int{0, 1, 9} {
		p := packed(b, level)
		for at := 0; at < len(p); at += 1 + len(p)/40 {
			for _, turn := range []byte{0, 1, 0xff} {
				q := slices.Clone(p)
				q[at] ^= turn
				out, used, where, e := All(q, 5000)
				for _, size := range []int{1, 2, 7, 100} {
					f := New(5000)
					for part := range slices.Chunk(q, size) {
						f.Feed(nil, part[:len(part)/2], part[len(part)/2:])
					}
					f.Close()
					done, u, w, g := f.State()
					if !bytes.Equal(f.Out(), out) || u != used || w != where || g != e || done != (e == api.OK) {
						t.Fatal(level, at, turn, size, u, used, w, where, g, e)
					}
				}
			}
		}
	}
}

func TestWhatIsWholeIsPutOut(t *testing.T) {
	p := start(1, 1, 1, 2).fixed('a', 'b', 'c', 257).dist(2).fixed(256).Bytes()
	f := New(99)
	var seen []string
	for _, x := range p {
		f.Feed([]byte{x})
		seen = append(seen, string(f.Out()))
	}
	if strings.Join(seen, " ") != " a ab abc abcabc abcabc" {
		t.Errorf("%q", seen)
	}
	if done, used, at, e := f.State(); !done || used != len(p) || at != 0 || e != api.OK {
		t.Error(done, used, at, e)
	}
}

func TestBehindAnEndNothingIsRead(t *testing.T) {
	f := New(9)
	f.Feed([]byte{3, 0}, []byte{1, 1, 0, 0xfe, 0xff, 'x'})
	f.Close()
	f.Feed([]byte{7})
	if done, used, at, e := f.State(); !done || used != 2 || at != 0 || e != api.OK || len(f.Out()) != 0 {
		t.Error("behind the end", done, used, at, e)
	}
	f = New(9)
	f.Feed([]byte{7})
	f.Feed([]byte{3, 0})
	f.Close()
	if done, used, at, e := f.State(); done || used != 0 || at != 0 || e != api.ErrHead {
		t.Error("behind an error", done, used, at, e)
	}
	f = New(9)
	f.Feed([]byte{3})
	if done, used, at, e := f.State(); done || used != 0 || at != 0 || e != api.OK {
		t.Error("within an item", done, used, at, e)
	}
	f.Close()
	f.Feed([]byte{0})
	f.Close()
	if done, used, at, e := f.State(); done || used != 0 || at != 1 || e != api.ErrEnd {
		t.Error("behind Close", done, used, at, e)
	}
}

func TestErrorsOfItemsAreToldWhenTheyAreThere(t *testing.T) {
	// A distance that is none is told, though the block goes on.
	p := start(0, 1, 1, 2).fixed('a', 257).dist(30).Bytes()
	f := New(9)
	f.Feed(p)
	if _, _, at, e := f.State(); at != 1 || e != api.ErrCode {
		t.Error(at, e)
	}
	// Bytes beyond the bound are told when they are there, not ahead.
	f = New(1)
	f.Feed([]byte{1, 2, 0, 0xfd, 0xff, 'a'})
	if _, _, _, e := f.State(); e != api.OK {
		t.Error(e)
	}
	f.Feed([]byte{'b'})
	if _, _, at, e := f.State(); at != 6 || e != api.ErrQuota {
		t.Error(at, e)
	}
}

func TestFarBackThroughTheWindow(t *testing.T) {
	b := sample(32768)
	var m maker = start(0, 1, 0, 2)
	m.Align()
	m.put(32768, 16, 32767, 16)
	for _, x := range b {
		m.put(int(x), 8)
	}
	m.put(1, 1, 1, 2)
	sym, extra, v := lz.DistSym(32768)
	for range 600 {
		m.fixed(285).dist(sym).put(int(v), extra)
	}
	m.fixed(256)
	out, _, _, e := All(m.Bytes(), math.MaxInt)
	want := bytes.Repeat(b, 6)[:32768+600*258]
	if e != api.OK || !bytes.Equal(out, want) {
		t.Error(e, len(out))
	}
}

func TestAsTheLibraryReads(t *testing.T) {
	x := uint32(11)
	next := func(n int) int {
		x = x*1664525 + 1013904223
		return int(x>>8) % n
	}
	sound := 0
	for i := range 4000 {
		b := make([]byte, next(40))
		for n := range b {
			b[n] = byte(next(256))
		}
		if i%2 == 0 {
			b = packed(sample(next(300)), 9)
			b[next(len(b))] ^= 1 << next(8)
		}
		out, used, _, e := All(b, 1<<20)
		in := bytes.NewReader(b)
		want, err := io.ReadAll(flate.NewReader(in))
		if (e == api.OK) != (err == nil) {
			t.Fatalf("%x: %v, but %v", b, e, err)
		}
		if e == api.OK {
			sound++
			if !bytes.Equal(out, want) || used != len(b)-in.Len() {
				t.Fatalf("%x: %x, not %x", b, out, want)
			}
		}
	}
	if sound == 0 {
		t.Error("none was sound")
	}
}

func TestOwnMemory(t *testing.T) {
	own := []byte{1, 3, 0, 0xfc, 0xff, 'a', 'b'}
	f := New(9)
	f.Feed(own)
	out := f.Out()
	own[5] = 'z'
	_ = append(out, 'y')
	out[0] = 'x'
	f.Feed([]byte{'c'})
	if string(f.Out()) != "abc" {
		t.Errorf("%s", f.Out())
	}
}
