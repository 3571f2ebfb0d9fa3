package canon

import (
	"bytes"
	"slices"
	"testing"

	"portmanteau/api"
	"portmanteau/bits"
)

func TestKind(t *testing.T) {
	for i, c := range []struct {
		lens []int
		want int
	}{
		{nil, api.CNone}, {[]int{0, 0}, api.CNone}, {make([]int, 320), api.CNone}, {make([]int, 321), api.CBad},
		{[]int{16}, api.CBad}, {[]int{1, 1, -1}, api.CBad}, {[]int{1, 1, 1, 99}, api.CBad},
		{[]int{0, 1, 0}, api.CLone}, {[]int{2}, api.CUnder}, {[]int{15}, api.CUnder}, {[]int{1, 2}, api.CUnder}, {[]int{2, 2}, api.CUnder},
		{[]int{1, 1}, api.CFull}, {[]int{2, 1, 3, 3}, api.CFull}, {[]int{1, 0, 2, 2}, api.CFull},
		{[]int{1, 1, 1}, api.COver}, {[]int{1, 1, 15}, api.COver}, {[]int{2, 2, 2, 2, 2}, api.COver},
		{slices.Repeat([]int{8}, 256), api.CFull}, {slices.Repeat([]int{8}, 255), api.CUnder}, {slices.Repeat([]int{8}, 257), api.COver},
	} {
		if k := Kind(c.lens); k != c.want {
			t.Error(i, k, c.want)
		}
	}
}

func TestCodes(t *testing.T) {
	for i, c := range []struct {
		lens []int
		want []uint32
		e    api.Errno
	}{
		{[]int{2, 1, 3, 3}, []uint32{2, 0, 6, 7}, api.OK},
		{[]int{3, 3, 3, 3, 3, 2, 4, 4}, []uint32{2, 3, 4, 5, 6, 0, 14, 15}, api.OK},
		{[]int{0, 1, 0}, []uint32{0, 0, 0}, api.OK}, {nil, nil, api.OK}, {[]int{0, 0}, []uint32{0, 0}, api.OK},
		{[]int{1, 0, 2, 2}, []uint32{0, 0, 2, 3}, api.OK},
		{[]int{1, 1, 1}, nil, api.ErrCode}, {[]int{2}, nil, api.ErrCode}, {[]int{16, 1, 1, 1}, nil, api.ErrArg}, {make([]int, 321), nil, api.ErrArg},
	} {
		if l, e := Codes(c.lens); e != c.e || !slices.Equal(l, c.want) {
			t.Error(i, l, e)
		}
		d, e := New(c.lens)
		if e != c.e || (d == nil) != (e != api.OK) {
			t.Error(i, "New", e)
		}
		w := bits.NewWriter()
		if e := Write(w, c.lens); e != c.e || w.Len() != 0 {
			t.Error(i, "Write", e)
		}
	}
}

func reader(bit ...uint32) *bits.Reader {
	// The reader's bytes are whole, so what is not wanted is taken off their beginning.
	w := bits.NewWriter()
	skip := (8 - len(bit)%8) % 8
	w.Put(0, skip)
	for _, b := range bit {
		w.Put(b, 1)
	}
	r := bits.NewReader(w.Bytes())
	r.Take(skip)
	return r
}

func TestReadAtTheEdges(t *testing.T) {
	full := []int{2, 1, 3, 3}
	for i, c := range []struct {
		lens []int
		bits []uint32
		want int
		e    api.Errno
		left int
	}{
		{full, []uint32{0}, 1, api.OK, 0}, {full, []uint32{1, 0, 1}, 0, api.OK, 1}, {full, []uint32{1, 1, 0, 0, 0, 0, 0, 0, 0}, 2, api.OK, 6}, {full, []uint32{1, 1, 1}, 3, api.OK, 0},
		{full, nil, 0, api.ErrEnd, 0}, {full, []uint32{1}, 0, api.ErrEnd, 1}, {full, []uint32{1, 1}, 0, api.ErrEnd, 2},
		{[]int{0, 1}, nil, 0, api.ErrEnd, 0}, {[]int{0, 1}, []uint32{0, 1}, 1, api.OK, 1}, {[]int{0, 1}, []uint32{1}, 0, api.ErrCode, 1}, {[]int{0, 1}, []uint32{1, 0, 0, 0}, 0, api.ErrCode, 4},
		{nil, nil, 0, api.ErrCode, 0}, {[]int{0, 0}, []uint32{0, 1}, 0, api.ErrCode, 2},
	} {
		d, _ := New(c.lens)
		r := reader(c.bits...)
		if v, e := d.Read(r); v != c.want || e != c.e || r.Left() != c.left {
			t.Error(i, v, e, r.Left())
		}
	}
}

func TestWriteHighestBitFirst(t *testing.T) {
	w := bits.NewWriter()
	if e := Write(w, []int{2, 1, 3, 3}, 0, 1, 2, 3); e != api.OK || w.Len() != 9 || !bytes.Equal(w.Bytes(), []byte{0b11011001, 1}) {
		t.Errorf("%v %b", e, w.Bytes())
	}
	for i, syms := range [][]int{{0, -1}, {1, 4}, {0, 1, 1 << 40}} {
		if e := Write(w, []int{2, 1, 3, 3}, syms...); e != api.ErrArg || w.Len() != 9 {
			t.Error(i, e, w.Len())
		}
	}
	if e := Write(w, []int{1, 0, 1}, 0, 1); e != api.ErrArg || w.Len() != 9 {
		t.Error("a place without a code", e)
	}
	if e := Write(w, []int{3}, 7); e != api.ErrCode || w.Len() != 9 {
		t.Error("Codes' error comes first", e)
	}
}

func TestWrittenIsRead(t *testing.T) {
	long := []int{1, 2, 3, 4, 5, 6, 7, 8, 9, 10, 11, 12, 13, 14, 15, 15}
	for i, lens := range [][]int{{1, 1}, {0, 0, 1}, long, slices.Repeat([]int{8}, 256), {3, 3, 3, 3, 3, 2, 4, 4}, append(slices.Repeat([]int{0}, 300), long...)} {
		var syms []int
		for n := range 1000 {
			if sym := n * 7 % len(lens); lens[sym] > 0 {
				syms = append(syms, sym)
			}
		}
		w := bits.NewWriter()
		if e := Write(w, lens, syms...); e != api.OK {
			t.Fatal(i, e)
		}
		d, _ := New(lens)
		r := bits.NewReader(w.Bytes())
		for _, want := range syms {
			if v, e := d.Read(r); v != want || e != api.OK {
				t.Fatal(i, v, want, e)
			}
		}
		if r.At() != w.Len() {
			t.Error(i, r.At(), w.Len())
		}
	}
}

func TestDecoderKeepsNothing(t *testing.T) {
	lens := []int{1, 1}
	d, _ := New(lens)
	lens[0], lens[1] = 0, 0
	if v, e := d.Read(reader(1)); v != 1 || e != api.OK {
		t.Error(v, e)
	}
}
