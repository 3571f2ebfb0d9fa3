package bits

import (
	"bytes"
	"testing"
)

func TestTakeLowestFirst(t *testing.T) {
	r := NewReader([]byte{0b10100101, 0xff, 1, 0, 0, 0x80})
	for i, c := range []struct {
		n    int
		want uint32
		ok   bool
	}{
		{1, 1, true}, {2, 2, true}, {-1, 0, false}, {33, 0, false}, {0, 0, true},
		{9, 0x1f4, true}, {32, 0x0000001f, true}, {5, 0, false}, {4, 8, true}, {1, 0, false}, {0, 0, true},
	} {
		at := r.At()
		v, ok := r.Take(c.n)
		if v != c.want || ok != c.ok {
			t.Errorf("%d: Take(%d) = %x, %v", i, c.n, v, ok)
		}
		if ok && r.At() != at+c.n || !ok && r.At() != at || r.At()+r.Left() != 48 {
			t.Errorf("%d: stands at %d with %d left", i, r.At(), r.Left())
		}
	}
}

func TestTakeAllOf32AtEachPlace(t *testing.T) {
	b := []byte{0x12, 0x34, 0x56, 0x78, 0x9a}
	for skip := range 9 {
		r := NewReader(b)
		r.Take(skip)
		want := uint32(uint64(0x9a78563412) >> skip)
		if v, ok := r.Take(32); !ok || v != want {
			t.Errorf("behind %d bits: %x, not %x", skip, v, want)
		}
	}
}

func TestPeekTakesNothing(t *testing.T) {
	r := NewReader([]byte{0xf0, 0x0f, 0xaa})
	r.Take(4)
	for _, c := range []struct {
		n    int
		want uint32
		have int
	}{{-5, 0, 0}, {0, 0, 0}, {3, 7, 3}, {8, 0xff, 8}, {20, 0xaa0ff, 20}, {21, 0xaa0ff, 20}, {32, 0xaa0ff, 20}, {1000, 0xaa0ff, 20}} {
		v, n := r.Peek(c.n)
		if v != c.want || n != c.have || r.At() != 4 {
			t.Errorf("Peek(%d) = %x, %d at %d", c.n, v, n, r.At())
		}
	}
	r = NewReader(bytes.Repeat([]byte{255}, 9))
	if v, n := r.Peek(99); v != 0xffffffff || n != 32 {
		t.Error("more than 32", v, n)
	}
	if v, n := NewReader(nil).Peek(8); v != 0 || n != 0 {
		t.Error("of nothing", v, n)
	}
}

func TestReaderAlignAndBytes(t *testing.T) {
	own := []byte{1, 2, 3, 4, 5}
	r := NewReader(own)
	own[1] = 99
	r.Align()
	if r.At() != 0 {
		t.Error("moved at a beginning", r.At())
	}
	r.Take(1)
	r.Align()
	if r.At() != 8 {
		t.Error("not at the next byte", r.At())
	}
	r.Take(3)
	if b, ok := r.Bytes(2); !ok || !bytes.Equal(b, []byte{3, 4}) || r.At() != 32 {
		t.Error(b, ok, r.At())
	}
	r.Take(1)
	for _, n := range []int{-1, 1, 2, 1 << 62, -1 << 63} {
		if b, ok := r.Bytes(n); ok || b != nil || r.At() != 40 {
			t.Error(n, b, ok, r.At())
		}
	}
	if b, ok := r.Bytes(0); !ok || len(b) != 0 {
		t.Error(b, ok)
	}
}

func TestBytesOfManyBytes(t *testing.T) {
	b := make([]byte, 200)
	for i := range b {
		b[i] = byte(i)
	}
	r := NewReader(b)
	if got, ok := r.Bytes(201); ok || got != nil || r.At() != 0 {
		t.Error(len(got), ok)
	}
	if got, ok := r.Bytes(150); !ok || !bytes.Equal(got, b[:150]) {
		t.Error(len(got), ok)
	}
	if got, ok := r.Bytes(51); ok || got != nil {
		t.Error(len(got), ok)
	}
	if got, ok := r.Bytes(50); !ok || !bytes.Equal(got, b[150:]) || r.Left() != 0 {
		t.Error(len(got), ok)
	}
}

func TestReaderTellsCopies(t *testing.T) {
	r := NewReader([]byte{1, 2, 3})
	b, _ := r.Bytes(1)
	b = append(b[:1], 7, 7)
	if v, ok := r.Take(16); !ok || v != 0x0302 {
		t.Error("the reader was changed from outside", v, b)
	}
}

func TestPutLowestFirst(t *testing.T) {
	w := NewWriter()
	if w.Put(1, -1) || w.Put(1, 33) || w.Code(1, -1) || w.Code(1, 33) || w.Len() != 0 || len(w.Bytes()) != 0 {
		t.Error("wrong numbers of bits were taken")
	}
	if !w.Put(0xfffffffd, 3) || w.Len() != 3 || !bytes.Equal(w.Bytes(), []byte{5}) {
		t.Error("bits above n were written", w.Bytes())
	}
	if !w.Put(7, 0) || w.Len() != 3 {
		t.Error("no bits are some")
	}
	if !w.Put(0x01ffff80, 32) || w.Len() != 35 || !bytes.Equal(w.Bytes(), []byte{5, 0xfc, 0xff, 0x0f, 0}) {
		t.Errorf("%x", w.Bytes())
	}
	w.Align()
	w.Align()
	if w.Len() != 40 {
		t.Error("aligned to", w.Len())
	}
	w.Bytes()[0] = 0
	if w.Bytes()[0] != 5 {
		t.Error("Bytes is no copy")
	}
	if !w.Put(3, 8) || !bytes.Equal(w.Bytes(), []byte{5, 0xfc, 0xff, 0x0f, 0, 3}) {
		t.Error("behind Bytes nothing goes on", w.Bytes())
	}
}

func TestAlignFillsWithNoughts(t *testing.T) {
	w := NewWriter()
	w.Align()
	if w.Len() != 0 {
		t.Error("nothing was filled up")
	}
	w.Put(1, 1)
	w.Align()
	w.Put(0xff, 8)
	if w.Len() != 16 || !bytes.Equal(w.Bytes(), []byte{1, 0xff}) {
		t.Error(w.Len(), w.Bytes())
	}
}

func TestCodeHighestFirst(t *testing.T) {
	w := NewWriter()
	w.Code(0b110, 3)
	w.Code(0b0001, 4)
	if !bytes.Equal(w.Bytes(), []byte{0b1000011}) || w.Len() != 7 {
		t.Errorf("%b", w.Bytes())
	}
}

func TestRev(t *testing.T) {
	for _, c := range []struct {
		v    uint32
		n    int
		want uint32
	}{
		{1, 1, 1}, {1, 32, 1 << 31}, {0b1011, 4, 0b1101}, {0xf1, 4, 8}, {0xfe, 1, 0},
		{5, 0, 0}, {5, -1, 0}, {5, 33, 0}, {0x80000001, 32, 0x80000001},
	} {
		if v := Rev(c.v, c.n); v != c.want {
			t.Errorf("Rev(%x, %d) = %x", c.v, c.n, v)
		}
	}
}

func TestThereAndBack(t *testing.T) {
	w := NewWriter()
	size := 0
	for i := range 400 {
		n := i % 33
		w.Put(uint32(i)*2654435761, n)
		size += n
	}
	if w.Len() != size {
		t.Fatal(w.Len(), size)
	}
	r := NewReader(w.Bytes())
	for i := range 400 {
		n := i % 33
		want := uint32(uint64(uint32(i)*2654435761) & (1<<n - 1))
		if v, ok := r.Take(n); !ok || v != want {
			t.Fatal(i, v, want)
		}
	}
	if r.Left() >= 8 {
		t.Error(r.Left())
	}
}
