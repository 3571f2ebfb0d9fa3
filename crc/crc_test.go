package crc

import (
	"bytes"
	"hash/crc32"
	"testing"
)

func sample(n int) []byte {
	b := make([]byte, n)
	x := uint32(1)
	for i := range b {
		x = x*1664525 + 1013904223
		b[i] = byte(x >> 24)
	}
	return b
}

func TestKnownSums(t *testing.T) {
	table := NewTable()
	for _, c := range []struct {
		text string
		want uint32
	}{{"", 0}, {"123456789", 0xcbf43926}, {"a", 0xe8b7be43}, {"\x00", 0xd202ef8d}, {"\xff\xff\xff\xff", 0xffffffff}} {
		if v := table.Sum([]byte(c.text)); v != c.want {
			t.Errorf("Sum(%q) = %x", c.text, v)
		}
		if v := table.Update(0, []byte(c.text)...); v != c.want {
			t.Errorf("Update(0, %q) = %x", c.text, v)
		}
	}
	if table.Sum() != 0 || table.Sum(nil, nil) != 0 || table.Update(77) != 77 {
		t.Error("no bytes change the check")
	}
}

func TestEachByteAsTheLibrary(t *testing.T) {
	table := NewTable()
	for i := range 256 {
		b := []byte{byte(i), byte(255 - i), 3}
		if v := table.Sum(b); v != crc32.ChecksumIEEE(b) {
			t.Errorf("%d: %x", i, v)
		}
		if v := table.Update(0xdeadbeef, b...); v != crc32.Update(0xdeadbeef, crc32.IEEETable, b) {
			t.Errorf("%d goes on: %x", i, v)
		}
	}
}

func TestInPartsTheSame(t *testing.T) {
	table := NewTable()
	all := sample(1000)
	want := crc32.ChecksumIEEE(all)
	for _, size := range []int{1, 2, 3, 7, 100, 999, 1000} {
		var parts [][]byte
		crc := uint32(0)
		for part := range chunks(all, size) {
			parts = append(parts, part, nil)
			crc = table.Update(crc, part...)
		}
		if v := table.Sum(parts...); v != want || crc != want {
			t.Errorf("parts of %d: %x, %x", size, v, crc)
		}
	}
	if !bytes.Equal(all, sample(1000)) {
		t.Error("what was handed in is changed")
	}
}

func chunks(b []byte, size int) func(func([]byte) bool) {
	return func(yield func([]byte) bool) {
		for len(b) > 0 {
			n := min(size, len(b))
			if !yield(b[:n]) {
				return
			}
			b = b[n:]
		}
	}
}
