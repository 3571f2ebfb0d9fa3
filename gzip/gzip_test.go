package gzip

import (
	"bytes"
	stdgzip "compress/gzip"
	"hash/crc32"
	"io"
	"math"
	"reflect"
	"slices"
	"strings"
	"testing"
	"time"

	"portmanteau/api"
)

func same(a, b api.Gz) bool {
	if !bytes.Equal(a.Extra, b.Extra) {
		return false
	}
	a.Extra, b.Extra = nil, nil
	return reflect.DeepEqual(a, b)
}

func heads() []api.Gz {
	return []api.Gz{
		{}, {OS: 255}, {Text: true, Time: 1<<32 - 1, Xfl: 255, OS: 3}, {HasExtra: true}, {HasExtra: true, Extra: make([]byte, 65535)},
		{Name: "a"}, {Comment: "b\nc"}, {Name: strings.Repeat("n", 1000), Comment: strings.Repeat("c", 1000)}, {Sum: true},
		{Text: true, HasExtra: true, Extra: []byte{1, 0, 2}, Name: "x\xff", Comment: "y", Sum: true, Time: 0x01020304, Xfl: 2, OS: 7},
	}
}

func TestHeadByteByByte(t *testing.T) {
	for i, c := range []struct {
		h    api.Gz
		want []byte
	}{
		{api.Gz{}, []byte{0x1f, 0x8b, 8, 0, 0, 0, 0, 0, 0, 0}},
		{api.Gz{Text: true, Time: 0x01020304, Xfl: 5, OS: 255}, []byte{0x1f, 0x8b, 8, 1, 4, 3, 2, 1, 5, 255}},
		{api.Gz{HasExtra: true, Extra: []byte{7, 8, 9}}, []byte{0x1f, 0x8b, 8, 4, 0, 0, 0, 0, 0, 0, 3, 0, 7, 8, 9}},
		{api.Gz{HasExtra: true}, []byte{0x1f, 0x8b, 8, 4, 0, 0, 0, 0, 0, 0, 0, 0}},
		{api.Gz{Name: "n", Comment: "cc"}, []byte{0x1f, 0x8b, 8, 24, 0, 0, 0, 0, 0, 0, 'n', 0, 'c', 'c', 0}},
		{api.Gz{Sum: true}, withSum([]byte{0x1f, 0x8b, 8, 2, 0, 0, 0, 0, 0, 0})},
	} {
		b, ok := Head(c.h)
		if !ok || !bytes.Equal(b, c.want) {
			t.Errorf("%d: %x", i, b)
		}
	}
}

func withSum(b []byte) []byte {
	sum := crc32.ChecksumIEEE(b)
	return append(b, byte(sum), byte(sum>>8))
}

func TestOk(t *testing.T) {
	for i, h := range heads() {
		if b, ok := Head(h); !Ok(h) || !ok || len(b) == 0 {
			t.Error(i)
		}
	}
	for i, h := range []api.Gz{
		{Extra: []byte{1}}, {HasExtra: true, Extra: make([]byte, 65536)}, {Name: strings.Repeat("n", 1001)}, {Comment: strings.Repeat("n", 1001)}, {Name: "a\x00"}, {Comment: "\x00"},
		{Time: -1}, {Time: 1 << 32}, {Xfl: -1}, {Xfl: 256}, {OS: -1}, {OS: 256},
	} {
		if Ok(h) {
			t.Error(i)
		}
		if b, ok := Head(h); ok || b != nil {
			t.Error(i, "Head")
		}
		if b, ok := Member(h, 1, []byte("x")); ok || b != nil {
			t.Error(i, "Member")
		}
	}
}

func TestReadHead(t *testing.T) {
	for i, h := range heads() {
		b, _ := Head(h)
		got, n, e := ReadHead(append(slices.Clone(b), 0, 1, 2))
		if !same(got, h) || n != len(b) || e != api.OK {
			t.Error(i, got, n, e)
		}
		for cut := 0; cut < len(b); cut += 1 + cut/50 {
			if got, n, e := ReadHead(b[:cut]); e != api.ErrEnd || n != 0 || !same(got, api.Gz{}) {
				t.Error(i, cut, n, e)
			}
		}
	}
}

func TestReadHeadRefuses(t *testing.T) {
	head := func(flags byte, more ...string) []byte {
		return append([]byte{0x1f, 0x8b, 8, flags, 0, 0, 0, 0, 0, 0}, strings.Join(more, "")...)
	}
	long := strings.Repeat("n", 1000)
	sum, _ := Head(api.Gz{Sum: true, Name: "a"})
	sum[len(sum)-1] ^= 1
	for i, c := range []struct {
		b []byte
		e api.Errno
	}{
		{nil, api.ErrEnd}, {[]byte{0x1f}, api.ErrEnd}, {[]byte{0}, api.ErrMagic}, {[]byte{0x1e, 0x8b, 8}, api.ErrMagic}, {[]byte{0x1f, 0x8c}, api.ErrMagic}, {[]byte{0x8b, 0x1f}, api.ErrMagic},
		{[]byte{0x1f, 0x8b, 7}, api.ErrHead}, {[]byte{0x1f, 0x8b, 8, 32}, api.ErrHead}, {[]byte{0x1f, 0x8b, 8, 64}, api.ErrHead}, {[]byte{0x1f, 0x8b, 8, 128}, api.ErrHead}, {[]byte{0x1f, 0x8b, 9, 255}, api.ErrHead},
		{head(8, "\x00"), api.ErrHead}, {head(16, "\x00"), api.ErrHead}, {head(24, "a\x00\x00"), api.ErrHead}, {head(24, "\x00a\x00"), api.ErrHead},
		{head(8, long), api.ErrEnd}, {head(8, long, "n"), api.ErrHead}, {head(8, long, "\x00"), api.OK}, {head(16, long, "nn\x00"), api.ErrHead}, {head(24, "a\x00", long, "n"), api.ErrHead},
		{head(4, "\x02\x00a"), api.ErrEnd}, {sum, api.ErrSum}, {sum[:len(sum)-1], api.ErrEnd}, {head(8|2, "\x00"), api.ErrHead},
	} {
		if h, n, e := ReadHead(c.b); e != c.e || e != api.OK && (n != 0 || !same(h, api.Gz{})) {
			t.Error(i, h, n, e)
		}
	}
}

func member(h api.Gz, level int, s string) []byte {
	b, _ := Member(h, level, []byte(s))
	return b
}

func TestMembers(t *testing.T) {
	texts := []string{"", "a", strings.Repeat("members one behind another ", 300)}
	for i, h := range heads() {
		for _, level := range []int{-1, 0, 1, 9} {
			for _, s := range texts {
				b, ok := Member(h, level, []byte(s[:len(s)/2]), nil, []byte(s[len(s)/2:]))
				if !ok || !bytes.Equal(b, member(h, level, s)) || !Is(b) {
					t.Fatal(i, level, len(s), ok)
				}
				out, l, at, e := All(b, len(s))
				if string(out) != s || len(l) != 1 || !same(l[0], h) || at != 0 || e != api.OK {
					t.Fatal(i, level, len(s), at, e)
				}
				r, err := stdgzip.NewReader(bytes.NewReader(b))
				if h.HasExtra && len(h.Extra) == 65535 || len(h.Name) > 500 || strings.Contains(h.Name+h.Comment, "\xff") {
					continue
				}
				if err != nil {
					t.Fatal(i, err)
				}
				if theirs, err := io.ReadAll(r); err != nil || string(theirs) != s || r.Name != h.Name || r.Comment != h.Comment || !bytes.Equal(r.Extra, h.Extra) {
					t.Fatal(i, err)
				}
			}
		}
	}
}

func TestTheLibrarysMembers(t *testing.T) {
	var b bytes.Buffer
	w := stdgzip.NewWriter(&b)
	w.Name, w.Comment, w.Extra, w.OS = "name", "comment", []byte{9}, 3
	w.ModTime = time.Unix(77, 0)
	w.Write([]byte("abcabcabcabc"))
	w.Close()
	out, l, _, e := All(b.Bytes(), 99)
	if string(out) != "abcabcabcabc" || e != api.OK || len(l) != 1 || l[0].Name != "name" || l[0].Comment != "comment" || l[0].OS != 3 || l[0].Time != 77 || !l[0].HasExtra {
		t.Error(out, l, e)
	}
}

func TestAll(t *testing.T) {
	a, b := member(api.Gz{Name: "a"}, 1, "aaaa"), member(api.Gz{OS: 3}, 0, "bb")
	n, m := len(a), len(b)
	cat := func(parts ...[]byte) []byte { return slices.Concat(parts...) }
	turned := func(b []byte, at int) []byte {
		b = slices.Clone(b)
		b[at] ^= 1
		return b
	}
	for i, c := range []struct {
		b     []byte
		most  int
		out   string
		heads int
		at    int
		e     api.Errno
	}{
		{nil, 9, "", 0, 0, api.ErrMagic}, {[]byte{0, 0}, 9, "", 0, 0, api.ErrMagic}, {[]byte{0x1f}, 9, "", 0, 0, api.ErrEnd}, {[]byte("x"), 9, "", 0, 0, api.ErrMagic},
		{a, 4, "aaaa", 1, 0, api.OK}, {cat(a, b), 6, "aaaabb", 2, 0, api.OK}, {cat(a, make([]byte, 700)), 9, "aaaa", 1, 0, api.OK}, {cat(b, a, b, []byte{0}), 99, "bbaaaabb", 3, 0, api.OK},
		{cat(a, []byte("x")), 9, "aaaa", 1, n, api.ErrMagic}, {cat(a, []byte{0, 0, 7}), 9, "aaaa", 1, n + 2, api.ErrMagic}, {cat(a, []byte{0}, b), 9, "aaaa", 1, n + 1, api.ErrMagic},
		{cat(a, []byte{0x1f}), 9, "aaaa", 1, n, api.ErrEnd}, {cat(a, []byte{0x1f, 7}), 9, "aaaa", 1, n, api.ErrMagic}, {cat(a, b[:5]), 9, "aaaa", 1, n, api.ErrEnd}, {cat(a, []byte{0x1f, 0x8b, 9}), 9, "aaaa", 1, n, api.ErrHead},
		{cat(a, b), 5, "aaaab", 2, n + 10 + 5 + 1, api.ErrQuota}, {cat(a, b), 4, "aaaa", 2, n + 10 + 5, api.ErrQuota}, {a, -1, "", 1, 12, api.ErrQuota}, {b, math.MinInt, "", 1, 15, api.ErrQuota},
		{cat(b, a[:n-8]), 99, "bbaaaa", 2, m + n - 8, api.ErrEnd}, {cat(b, a[:n-4]), 99, "bbaaaa", 2, m + n - 4, api.ErrEnd}, {a[:n-1], 99, "aaaa", 1, n - 1, api.ErrEnd}, {a[:12], 99, "", 1, 12, api.ErrEnd},
		{turned(a, n-8), 99, "aaaa", 1, n - 8, api.ErrSum}, {turned(a, n-1), 99, "aaaa", 1, n - 8, api.ErrSum}, {cat(b, turned(a, n-4)), 99, "bbaaaa", 2, m + n - 8, api.ErrSum},
		{turned(a, n-8)[:n-3], 99, "aaaa", 1, n - 8, api.ErrSum}, {turned(a, n-8)[:n-4], 99, "aaaa", 1, n - 8, api.ErrSum}, {turned(a, n-8)[:n-5], 99, "aaaa", 1, n - 5, api.ErrEnd},
		{turned(b, 11), 99, "", 1, 10, api.ErrHead},
	} {
		out, l, at, e := All(c.b, c.most)
		if string(out) != c.out || len(l) != c.heads || at != c.at || e != c.e {
			t.Errorf("%d: %q %d at %d: %v", i, out, len(l), at, e)
		}
	}
}

func TestWhatIsChangedIsTold(t *testing.T) {
	b := member(api.Gz{Sum: true, Name: "name", Time: 5}, 9, strings.Repeat("what is packed is unpacked ", 20))
	for at := range b {
		for _, turn := range []byte{1, 0x80, 0xff} {
			q := slices.Clone(b)
			q[at] ^= turn
			// The last block's rest of a byte says nothing.
			if _, _, _, e := All(q, 1<<20); e == api.OK && at != len(b)-9 {
				t.Error(at, turn)
			}
		}
		if _, _, _, e := All(b[:at], 1<<20); e == api.OK {
			t.Error("cut at", at)
		}
	}
}

func TestEachCutIsTheEnd(t *testing.T) {
	text := strings.Repeat("what is cut off is told where the bytes end ", 3)
	for _, level := range []int{0, 9} {
		head, _ := Head(api.Gz{Name: "n"})
		b := member(api.Gz{Name: "n"}, level, text)
		for cut := 1; cut < len(b); cut++ {
			out, l, at, e := All(b[:cut], 1000)
			want, heads := cut, 1
			if cut < len(head) {
				want, heads = 0, 0
			}
			if e != api.ErrEnd || at != want || len(l) != heads || !strings.HasPrefix(text, string(out)) {
				t.Error(level, cut, len(out), len(l), at, e)
			}
		}
	}
}

func TestManyMembers(t *testing.T) {
	one := member(api.Gz{}, 6, "x")
	b := bytes.Repeat(one, 50000)
	out, l, at, e := All(b, 50000)
	if !bytes.Equal(out, bytes.Repeat([]byte("x"), 50000)) || len(l) != 50000 || at != 0 || e != api.OK {
		t.Error(len(out), len(l), at, e)
	}
}

func TestIs(t *testing.T) {
	for s, want := range map[string]bool{"": false, "\x1f": false, "\x1f\x8b": true, "\x1f\x8bx": true, "\x1f\x8c": false, "\x1e\x8b": false} {
		if Is([]byte(s)) != want {
			t.Errorf("%q", s)
		}
	}
}

func TestOwnMemory(t *testing.T) {
	b, _ := Head(api.Gz{HasExtra: true, Extra: []byte{1, 2}})
	h, _, _ := ReadHead(b)
	b[12] = 9
	h.Extra = append(h.Extra, 3)
	if h.Extra[0] != 1 {
		t.Error("Extra is shared")
	}
}
