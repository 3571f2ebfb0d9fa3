package sparse

import (
	"bytes"
	"math"
	"slices"
	"strconv"
	"strings"
	"testing"

	"portmanteau/api"
)

func made(pairs ...any) []api.Piece {
	var l []api.Piece
	for i := 0; i < len(pairs); i += 2 {
		l = append(l, api.Piece{At: pairs[i].(int), B: []byte(pairs[i+1].(string))})
	}
	return l
}

func many(n int) []api.Piece {
	var l []api.Piece
	for i := range n {
		l = append(l, api.Piece{At: 2 * i, B: []byte{byte(i)}})
	}
	return l
}

func samePieces(a, b []api.Piece) bool {
	return slices.EqualFunc(a, b, func(p, q api.Piece) bool { return p.At == q.At && bytes.Equal(p.B, q.B) })
}

func TestOkAndHoles(t *testing.T) {
	for i, c := range []struct {
		size      int
		l         []api.Piece
		ok, holes bool
	}{
		{0, nil, true, false}, {5, nil, true, true}, {1 << 40, nil, true, true}, {1<<40 + 1, nil, false, false}, {-1, nil, false, false}, {math.MinInt, nil, false, false},
		{3, made(0, "abc"), true, false}, {4, made(0, "abc"), true, true}, {4, made(1, "abc"), true, true}, {3, made(1, "abc"), false, false}, {2, made(0, "abc"), false, false},
		{9, made(0, "a", 2, "b"), true, true}, {9, made(0, "a", 1, "b"), false, false}, {9, made(0, "ab", 1, "b"), false, false}, {9, made(3, "a", 0, "b"), false, false}, {9, made(0, ""), false, false}, {9, made(0, "a", 5, ""), false, false}, {9, made(-1, "a"), false, false},
		{9, made(math.MaxInt, "a"), false, false}, {9, made(math.MinInt, "a"), false, false}, {1 << 40, made(1<<40-1, "a"), true, true}, {1 << 40, made(1<<40, "a"), false, false},
		{2000, many(1000), true, true}, {1999, many(1000), true, true}, {3000, many(1001), false, false},
	} {
		if Ok(c.size, c.l) != c.ok || Holes(c.size, c.l) != c.holes {
			t.Error(i)
		}
		if b, ok := Encode(c.size, c.l); ok != c.ok || !ok && b != nil {
			t.Error(i, "Encode", ok)
		}
		if b, ok := Dense(c.size, c.l); ok != (c.ok && c.size <= 1<<20) || !ok && b != nil {
			t.Error(i, "Dense", ok)
		}
	}
}

// told is a map as it stands, and bytes behind it.
func told(lines, data string) []byte {
	head := strings.ReplaceAll(lines, " ", "\n") + "\n"
	return []byte(head + strings.Repeat("\x00", (512-len(head)%512)%512) + data)
}

func TestEncode(t *testing.T) {
	for i, c := range []struct {
		size int
		l    []api.Piece
		want []byte
	}{
		{5, nil, told("1 5 0", "")}, {0, nil, told("1 0 0", "")}, {3, made(0, "abc"), told("1 0 3", "abc")}, {4, made(1, "abc"), told("1 1 3", "abc")}, {9, made(1, "abc", 5, "d"), told("3 1 3 5 1 9 0", "abcd")}, {6, made(1, "abc", 5, "d"), told("2 1 3 5 1", "abcd")},
	} {
		if b, ok := Encode(c.size, c.l); !bytes.Equal(b, c.want) || !ok {
			t.Errorf("%d: %q", i, b)
		}
		if l, e := Decode(c.size, c.want); !samePieces(l, c.l) || e != api.OK {
			t.Error(i, l, e)
		}
	}
}

func TestThereAndBack(t *testing.T) {
	for n := range 1001 {
		l := many(n)
		if n > 2 {
			l[n-1].B = bytes.Repeat([]byte{7}, n)
		}
		end := 0
		if n > 0 {
			end = l[n-1].At + len(l[n-1].B)
		}
		for _, size := range []int{end, end + 1, 1 << 40} {
			b, ok := Encode(size, l)
			if !ok {
				t.Fatal(n, size)
			}
			if back, e := Decode(size, b); e != api.OK || !samePieces(back, l) {
				t.Fatal(n, size, e)
			}
			if _, e := Decode(size-1, b); e != api.ErrMap {
				t.Fatal(n, size, "of another size", e)
			}
		}
	}
}

func TestMapsOfAWholeBlock(t *testing.T) {
	for n := 100; n < 140; n++ {
		l := many(n)
		size := 2 * n
		b, _ := Encode(size, l)
		if (len(b)-n)%512 != 0 || !bytes.HasSuffix(b, l[n-1].B) {
			t.Error(n, len(b))
		}
	}
}

func TestDecodeRefuses(t *testing.T) {
	var above strings.Builder
	above.WriteString("1002")
	for i := range 1001 {
		above.WriteString(" " + strconv.Itoa(2*i) + " 1")
	}
	above.WriteString(" 5000 0")
	for i, c := range []struct {
		size int
		b    []byte
	}{
		{5, nil}, {5, []byte("1")}, {5, []byte("1\n5\n0\n")}, {5, told("1 5 0", "x")}, {5, told("1 5 0", strings.Repeat("\x00", 512))}, {5, told("0", "")}, {0, told("0", "")}, {5, told("1 5", "")}, {5, told("2 5 0", "")}, {5, told("2 5 0 5 0", "")}, {5, told("1 6 0", "")}, {5, told("1 4 0", "")},
		{5, told("01 5 0", "")}, {5, told("1 05 0", "")}, {5, told("1 +5 0", "")}, {5, told("1 5 -0", "")}, {5, told("-1 5 0", "")}, {5, told("x 5 0", "")}, {5, told("1  5 0", "")},
		{3, told("2 0 3 3 0", "abc")}, {4, told("1 0 3", "abc")}, {4, told("2 0 3 4 0", "ab")}, {4, told("2 0 3 4 0", "abcd")}, {9, told("3 3 1 0 1 9 0", "ab")}, {9, told("3 0 1 1 1 9 0", "ab")}, {9, told("3 0 0 1 1 9 0", "a")}, {9, told("2 0 -1 9 0", "")}, {9, told("2 0 9223372036854775807 9 0", "")}, {9, told("2 9999999999999999999999 1 9 0", "a")}, {9, told("3 9 0 0 1 9 0", "a")},
		{2, told("1 0 3", "abc")}, {-1, told("1 -1 0", "")}, {1<<40 + 1, told("1 1099511627777 0", "")}, {9, told("2 0 1 9 0 7", "a")}, {5000, told(above.String(), strings.Repeat("x", 1001))}, {9, bytes.Repeat([]byte("1"), 5000)}, {9, []byte("99999999\n")}, {9, told("99999999 0 1", "a")},
	} {
		if l, e := Decode(c.size, c.b); e != api.ErrMap || l != nil {
			t.Error(i, l, e)
		}
	}
	good := told("2 0 3 9 0", "abc")
	for at := range good[:512] {
		q := slices.Clone(good)
		q[at] ^= 1
		if l, e := Decode(9, q); e == api.OK && samePieces(l, made(0, "abc")) {
			t.Error("changed at", at)
		}
	}
}

func TestDense(t *testing.T) {
	if b, ok := Dense(7, made(1, "ab", 5, "c")); string(b) != "\x00ab\x00\x00c\x00" || !ok {
		t.Errorf("%q", b)
	}
	if b, ok := Dense(0, nil); len(b) != 0 || !ok {
		t.Error(b, ok)
	}
	if b, ok := Dense(1<<20, made(1<<20-1, "x")); len(b) != 1<<20 || b[1<<20-1] != 'x' || !ok {
		t.Error(ok)
	}
}

func TestOwnMemory(t *testing.T) {
	b := told("2 0 3 4 2", "abcde")
	l, _ := Decode(6, b)
	b[512] = 'z'
	_ = append(l[0].B, 'z')
	if !samePieces(l, made(0, "abc", 4, "de")) {
		t.Error(l)
	}
}
