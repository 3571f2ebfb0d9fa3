// Package bits reads and writes bits one behind the other, each byte from its lowest bit on.
package bits

import (
	"bytes"
	mathbits "math/bits"
)

// mostBits is how many bits one call hands on at most.
const mostBits = 32

// Reader takes bits from bytes that it has copied.
type Reader struct {
	bytes []byte
	at    int // in bits
}

// NewReader starts at the first bit of b.
func NewReader(b []byte) *Reader {
	return &Reader{bytes: bytes.Clone(b)}
}

// Take tells the next n bits and goes behind them, or takes nothing.
func (r *Reader) Take(n int) (uint32, bool) {
	if n < 0 || n > mostBits || n > r.Left() {
		return 0, false
	}
	v, _ := r.Peek(n)
	r.at += n
	return v, true
}

// Peek tells the next n bits, noughts behind the end, and how many of them are there.
func (r *Reader) Peek(n int) (uint32, int) {
	there := min(max(n, 0), mostBits, r.Left())
	if there == 0 {
		return 0, 0
	}
	first, skip := r.at/8, r.at%8
	// 32 bits that begin within a byte reach into a fifth one.
	var v uint64
	for i := range (skip + there + 7) / 8 {
		v |= uint64(r.bytes[first+i]) << (8 * i)
	}
	return uint32(v >> skip & lowest(there)), there
}

// Align goes to the next byte's beginning.
func (r *Reader) Align() {
	r.at = (r.at + 7) / 8 * 8
}

// Bytes aligns, and tells the next n bytes.
func (r *Reader) Bytes(n int) ([]byte, bool) {
	r.Align()
	if n < 0 || n > r.Left()/8 {
		return nil, false
	}
	from := r.at / 8
	r.at += 8 * n
	return bytes.Clone(r.bytes[from : from+n]), true
}

// At tells how many bits were taken.
func (r *Reader) At() int {
	return r.at
}

// Left tells how many bits there still are.
func (r *Reader) Left() int {
	return 8*len(r.bytes) - r.at
}

// Writer puts bits behind each other.
type Writer struct {
	bytes []byte
	size  int // in bits
}

// NewWriter starts with no bits.
func NewWriter() *Writer {
	return &Writer{}
}

// Put writes the lowest n bits of v, the lowest first.
func (w *Writer) Put(v uint32, n int) bool {
	if n < 0 || n > mostBits {
		return false
	}
	rest := uint64(v) & lowest(n)
	for left := n; left > 0; {
		skip := w.size % 8
		if skip == 0 {
			w.bytes = append(w.bytes, 0)
		}
		now := min(8-skip, left)
		w.bytes[len(w.bytes)-1] |= byte(rest << skip)
		rest >>= now
		left -= now
		w.size += now
	}
	return true
}

// Code writes the lowest n bits of v, the highest first, as codes stand.
func (w *Writer) Code(v uint32, n int) bool {
	return w.Put(Rev(v, n), n)
}

// Align fills the last byte up with noughts.
func (w *Writer) Align() {
	w.size = 8 * len(w.bytes)
}

// Bytes tells a copy of all that was written.
func (w *Writer) Bytes() []byte {
	return bytes.Clone(w.bytes)
}

// Len tells how many bits were written.
func (w *Writer) Len() int {
	return w.size
}

// Rev turns the lowest n bits of v round.
func Rev(v uint32, n int) uint32 {
	if n < 1 || n > mostBits {
		return 0
	}
	return mathbits.Reverse32(v) >> (mostBits - n)
}

func lowest(n int) uint64 {
	return 1<<n - 1
}
