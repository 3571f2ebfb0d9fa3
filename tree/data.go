package tree

import (
	"bytes"
	"slices"
	"sort"

	"portmanteau/api"
)

// data is what was written of a file: pieces that rise, none of which touches another.
type data []api.Piece

func end(p api.Piece) int {
	return p.At + len(p.B)
}

// after tells the first piece that ends behind at.
func (d data) after(at int) int {
	return sort.Search(len(d), func(i int) bool { return end(d[i]) > at })
}

// size tells how many bytes were written.
func (d data) size() int {
	sum := 0
	for _, p := range d {
		sum += len(p.B)
	}
	return sum
}

// fitting tells how many of the size bytes from at on can be written, if at most room of them are fresh, and how many are.
func (d data) fitting(at, size, room int) (fit, fresh int) {
	next, stop := at, at+size
	for i := d.after(at); next < stop; i++ {
		// Up to the next piece the bytes are fresh, and within it they are not.
		from, to := stop, stop
		if i < len(d) {
			from, to = min(d[i].At, stop), min(end(d[i]), stop)
		}
		if gap := from - next; gap > 0 {
			if gap > room-fresh {
				return next - at + room - fresh, room
			}
			fresh += gap
		}
		next = to
	}
	return size, fresh
}

// put writes b; the pieces that it touches become one.
func (d *data) put(at int, b []byte) {
	l := *d
	stop := at + len(b)
	i := l.after(at - 1)
	j := i + sort.Search(len(l)-i, func(k int) bool { return l[i+k].At > stop })
	if i == j {
		*d = slices.Insert(l, i, api.Piece{At: at, B: bytes.Clone(b)})
		return
	}
	first, last := l[i], l[j-1]
	if first.At <= at && end(first) >= stop {
		copy(first.B[at-first.At:], b)
		return
	}
	joined := api.Piece{At: at, B: bytes.Clone(b)}
	if first.At <= at {
		joined = api.Piece{At: first.At, B: append(first.B[:at-first.At], b...)}
	}
	if more := end(last) - stop; more > 0 {
		joined.B = append(joined.B, last.B[len(last.B)-more:]...)
	}
	*d = slices.Replace(l, i, j, joined)
}

// cut takes away what was written from size on, and tells how many bytes that were.
func (d *data) cut(size int) int {
	l := *d
	before := l.size()
	i := l.after(size)
	if i < len(l) && l[i].At < size {
		l[i].B = bytes.Clone(l[i].B[:size-l[i].At])
		i++
	}
	*d = slices.Delete(l, i, len(l))
	return before - d.size()
}

// read tells n bytes from at on.
func (d data) read(at, n int) []byte {
	b := make([]byte, n)
	for _, p := range d[d.after(at):] {
		if p.At >= at+n {
			break
		}
		if p.At < at {
			copy(b, p.B[at-p.At:])
		} else {
			copy(b[p.At-at:], p.B)
		}
	}
	return b
}

func (d data) copied() []api.Piece {
	var l []api.Piece
	for _, p := range d {
		l = append(l, api.Piece{At: p.At, B: bytes.Clone(p.B)})
	}
	return l
}
