package lens

import (
	"slices"
	"testing"

	"portmanteau/api"
	"portmanteau/bits"
	"portmanteau/canon"
	"portmanteau/huff"
)

func run(pairs ...int) []api.Run {
	var l []api.Run
	for i := 0; i < len(pairs); i += 2 {
		l = append(l, api.Run{Sym: pairs[i], Extra: pairs[i+1]})
	}
	return l
}

func TestFlat(t *testing.T) {
	zeros := make([]int, 320)
	for i, c := range []struct {
		n    int
		runs []api.Run
		want []int
		e    api.Errno
	}{
		{4, run(5, 0, 16, 0), []int{5, 5, 5, 5}, api.OK}, {7, run(5, 0, 16, 3), slices.Repeat([]int{5}, 7), api.OK}, {0, nil, nil, api.OK},
		{3, run(17, 0), zeros[:3], api.OK}, {10, run(17, 7), zeros[:10], api.OK}, {11, run(18, 0), zeros[:11], api.OK}, {138, run(18, 127), zeros[:138], api.OK},
		{6, run(17, 0, 16, 0), zeros[:6], api.OK}, {2, run(0, 0, 15, 0), []int{0, 15}, api.OK}, {320, run(18, 127, 18, 127, 18, 33), zeros, api.OK},
		{-1, nil, nil, api.ErrArg}, {321, run(99, 0), nil, api.ErrArg}, {1, nil, nil, api.ErrHead}, {0, run(0, 0), nil, api.ErrHead},
		{3, run(16, 0), nil, api.ErrHead}, {5, run(5, 0, 16, 4), nil, api.ErrHead}, {8, run(5, 0, 16, 4), nil, api.ErrHead}, {11, run(17, 8), nil, api.ErrHead}, {139, run(18, 128), nil, api.ErrHead},
		{3, run(17, -1), nil, api.ErrHead}, {1, run(5, 1), nil, api.ErrHead}, {1, run(19, 0), nil, api.ErrHead}, {1, run(-1, 0), nil, api.ErrHead}, {1, run(1<<62, 1<<62), nil, api.ErrHead},
		{4, run(5, 0, 16, 1), nil, api.ErrHead}, {5, run(5, 0, 16, 0), nil, api.ErrHead}, {3, run(1, 0, 2, 0), nil, api.ErrHead}, {2, run(1, 0, 2, 0, 3, 0), nil, api.ErrHead},
	} {
		if l, e := Flat(c.n, c.runs...); e != c.e || !slices.Equal(l, c.want) {
			t.Error(i, l, e)
		}
	}
}

func TestRunsAreFlatAgain(t *testing.T) {
	x := uint32(3)
	for range 2000 {
		var l []int
		for len(l) < 320 {
			x = x*1664525 + 1013904223
			value, times := int(x>>28), 1+int(x>>8%200)
			if x>>20%3 == 0 {
				value = 0
			}
			l = append(l, slices.Repeat([]int{value}, times)...)
		}
		l = l[:x>>4%321]
		runs := Runs(l)
		if back, e := Flat(len(l), runs...); e != api.OK || !slices.Equal(back, l) {
			t.Fatal(l, runs, e)
		}
	}
	if len(Runs(make([]int, 138))) != 1 || len(Runs(slices.Repeat([]int{8}, 7))) != 2 {
		t.Error("they are not told shortly")
	}
	for _, l := range [][]int{nil, {16}, {1, -1}, {1, 2, 1 << 40}} {
		if Runs(l) != nil {
			t.Error(l)
		}
	}
}

func TestOrder(t *testing.T) {
	want := []int{16, 17, 18, 0, 8, 7, 9, 6, 10, 5, 11, 4, 12, 3, 13, 2, 14, 1, 15}
	Order()[0] = 99
	if !slices.Equal(Order(), want) {
		t.Error(Order())
	}
}

func lengths(n int, at map[int]int) []int {
	l := make([]int, n)
	for i, v := range at {
		l[i] = v
	}
	return l
}

func good() map[string][2][]int {
	fixed := slices.Concat(slices.Repeat([]int{8}, 144), slices.Repeat([]int{9}, 112), slices.Repeat([]int{7}, 24), slices.Repeat([]int{8}, 6))
	// Two codes of length 8 are not told by 286 places; others take their room.
	fixed[0] = 7
	fixed[1] = 7
	return map[string][2][]int{
		"lone":  {lengths(257, map[int]int{256: 1}), []int{0}},
		"pair":  {lengths(286, map[int]int{0: 1, 256: 1}), lengths(30, map[int]int{29: 1})},
		"deep":  {lengths(286, map[int]int{1: 1, 2: 2, 3: 3, 4: 4, 5: 5, 6: 6, 7: 7, 8: 8, 9: 9, 10: 10, 11: 11, 12: 12, 13: 13, 14: 14, 256: 15, 285: 15}), lengths(30, map[int]int{3: 1, 4: 2, 5: 2})},
		"fixed": {fixed, slices.Concat(slices.Repeat([]int{5}, 28), []int{4, 4})},
	}
}

func TestWrittenIsRead(t *testing.T) {
	for name, c := range good() {
		w := bits.NewWriter()
		w.Put(5, 3)
		if e := Write(w, c[0], c[1]); e != api.OK {
			t.Fatal(name, e, canon.Kind(c[0]), canon.Kind(c[1]))
		}
		size := w.Len()
		w.Put(0xffff, 16)
		r := bits.NewReader(w.Bytes())
		r.Take(3)
		lit, dist, e := Read(r)
		if e != api.OK || !slices.Equal(lit, c[0]) || !slices.Equal(dist, c[1]) || r.At() != size {
			t.Error(name, e, r.At(), size)
		}
	}
}

func TestCodesOfLengthsThatWouldBeTooLong(t *testing.T) {
	// Lengths of which each is told about twice as often as the next: the best code of them would have more than 7 bits.
	x := uint32(1)
	deep := 0
	for range 3000 {
		weights := make([]int, 286)
		for i := range weights {
			x = x*1664525 + 1013904223
			weights[i] = 1 + int(x>>8%1000)>>(x>>20%10)<<(x>>27%4)
		}
		lit, _ := huff.Lengths(weights, 15)
		dist := []int{0}
		counts := make([]int, symbols)
		for _, run := range Runs(slices.Concat(lit, dist)) {
			counts[run.Sym]++
		}
		if free, _ := huff.Lengths(counts, 15); slices.Max(free) > 7 {
			deep++
		}
		w := bits.NewWriter()
		if e := Write(w, lit, dist); e != api.OK {
			t.Fatal(e)
		}
		if got, _, e := Read(bits.NewReader(w.Bytes())); e != api.OK || !slices.Equal(got, lit) {
			t.Fatal(e, lit)
		}
	}
	if deep == 0 {
		t.Error("none would have been too long")
	}
}

func TestEachCutIsTheEnd(t *testing.T) {
	for name, c := range good() {
		w := bits.NewWriter()
		Write(w, c[0], c[1])
		for n := range w.Len() {
			skip := (8 - n%8) % 8
			v := bits.NewWriter()
			v.Put(0, skip)
			r := bits.NewReader(w.Bytes())
			for range n {
				bit, _ := r.Take(1)
				v.Put(bit, 1)
			}
			cut := bits.NewReader(v.Bytes())
			cut.Take(skip)
			if lit, dist, e := Read(cut); e != api.ErrEnd || lit != nil || dist != nil {
				t.Fatal(name, n, e)
			}
		}
	}
}

func TestWriteRefuses(t *testing.T) {
	lone, none := lengths(257, map[int]int{256: 1}), []int{0}
	for i, c := range [][2][]int{
		{lone[:256], none}, {nil, none}, {lengths(287, map[int]int{256: 1}), none}, {lone, nil}, {lone, make([]int, 31)},
		{lengths(257, map[int]int{0: 1}), none}, {lengths(257, map[int]int{256: 2}), none}, {lengths(257, map[int]int{0: 1, 1: 1, 256: 1}), none},
		{lengths(257, map[int]int{0: 1, 256: 16}), none}, {lengths(257, map[int]int{0: -1, 256: 1}), none},
		{lone, []int{2}}, {lone, []int{1, 1, 1}}, {lone, []int{16}}, {lone, []int{-1}},
	} {
		w := bits.NewWriter()
		if e := Write(w, c[0], c[1]); e != api.ErrArg || w.Len() != 0 {
			t.Error(i, e, w.Len())
		}
	}
}

// raw writes a head as it is told, right or wrong; each of runs is bits, and how many.
func raw(lits, dists int, code map[int]int, runs ...[2]uint32) *bits.Writer {
	w := bits.NewWriter()
	w.Put(uint32(lits), 5)
	w.Put(uint32(dists), 5)
	w.Put(15, 4)
	for _, sym := range Order() {
		w.Put(uint32(code[sym]), 3)
	}
	for _, x := range runs {
		w.Put(x[0], int(x[1]))
	}
	return w
}

func TestReadRefuses(t *testing.T) {
	// The codes are 00, 01, 10 and 11, the highest bit first.
	code := map[int]int{0: 2, 1: 2, 16: 2, 18: 2}
	zero, one, again := [2]uint32{0, 2}, [2]uint32{2, 2}, [2]uint32{1, 2}
	many := func(n int) [2]uint32 { return [2]uint32{3 | uint32(n-11)<<2, 9} }
	for i, c := range []struct {
		w    *bits.Writer
		want api.Errno
	}{
		{raw(0, 0, code, many(138), many(118), one, zero), api.OK},
		{raw(0, 0, code, many(138), many(118), one, one), api.OK},
		{raw(30, 0, code), api.ErrHead}, {raw(0, 30, code), api.ErrHead}, {raw(31, 31, nil), api.ErrHead},
		{raw(0, 0, nil), api.ErrHead}, {raw(0, 0, map[int]int{1: 1, 2: 2}), api.ErrHead}, {raw(0, 0, map[int]int{1: 1, 2: 1, 3: 1}), api.ErrHead}, {raw(0, 0, map[int]int{5: 2}), api.ErrHead},
		{raw(0, 0, map[int]int{5: 1}, [2]uint32{1, 1}), api.ErrCode},
		{raw(0, 0, code, again, zero), api.ErrHead}, {raw(0, 0, code, again, [2]uint32{0, 1}), api.ErrHead},
		{raw(0, 0, code, many(138), many(138)), api.ErrHead},
		{raw(0, 0, code, many(138), many(120)), api.ErrHead}, // no 256
		{raw(0, 0, code, many(138), many(117), one, zero, zero), api.ErrHead},
		{raw(0, 0, code, one, one, many(138), many(116), one, zero), api.ErrHead},         // lit is too much
		{raw(0, 2, code, many(138), many(118), one, one, one, one), api.ErrHead},          // dist is too much
		{raw(0, 0, map[int]int{2: 1, 18: 1}, [2]uint32{0xff, 8}), api.ErrHead},            // 138 and 138 noughts are beyond all
		{raw(0, 1, code, many(138), many(118), one, again, [2]uint32{0, 2}), api.ErrHead}, // three more, where two are left
	} {
		b := c.w.Bytes()
		if c.want == api.ErrHead {
			b = append(b, 255, 255, 255)
		}
		lit, dist, e := Read(bits.NewReader(b))
		if e != c.want || e != api.OK && (lit != nil || dist != nil) {
			t.Error(i, len(lit), len(dist), e)
		}
	}
}

func TestAskedWhenWhollyThere(t *testing.T) {
	// Too many lit, and nothing behind the three counts.
	w := bits.NewWriter()
	w.Put(30, 5)
	w.Put(0, 9)
	if _, _, e := Read(bits.NewReader(w.Bytes()[:1])); e != api.ErrEnd {
		t.Error("the counts are not all there", e)
	}
	if _, _, e := Read(bits.NewReader(w.Bytes())); e != api.ErrHead {
		t.Error("the counts are there", e)
	}
	// A code of lengths that is none, of which the last bits are missing.
	w = raw(0, 0, nil)
	if _, _, e := Read(bits.NewReader(w.Bytes()[:8])); e != api.ErrEnd {
		t.Error("the code of lengths is not all there", e)
	}
	if _, _, e := Read(bits.NewReader(w.Bytes())); e != api.ErrHead {
		t.Error("the code of lengths is there", e)
	}
	// A 16 ahead of any length, of whose extra bits one is missing: the head has 71 bits, and the code of 16 one.
	w = raw(0, 0, map[int]int{16: 1, 1: 1})
	w.Put(1, 1)
	if w.Len() != 72 {
		t.Fatal(w.Len())
	}
	if _, _, e := Read(bits.NewReader(w.Bytes())); e != api.ErrEnd {
		t.Error("the extra bits are not there", e)
	}
	w.Put(0, 2)
	if _, _, e := Read(bits.NewReader(w.Bytes())); e != api.ErrHead {
		t.Error("the extra bits are there", e)
	}
	// A code of lengths that is none, and nothing behind it.
	w = bits.NewWriter()
	w.Put(0, 1)
	w.Put(15<<10, 14)
	for range symbols {
		w.Put(0, 3)
	}
	r := bits.NewReader(w.Bytes())
	r.Take(1)
	if _, _, e := Read(r); e != api.ErrHead || w.Len() != 72 {
		t.Error("the code of lengths is just there", e)
	}
	if _, _, e := Read(bits.NewReader(nil)); e != api.ErrEnd {
		t.Error("nothing", e)
	}
}
