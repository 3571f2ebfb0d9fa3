package huff

import (
	"math"
	"slices"
	"testing"

	"portmanteau/api"
)

// best tries all rows of lengths whose Kraft sum is one.
func best(weights []int, limit int) int {
	var used []int
	for _, w := range weights {
		if w > 0 {
			used = append(used, w)
		}
	}
	least := math.MaxInt
	var try func(i, left, cost int)
	try = func(i, left, cost int) {
		if i == len(used) {
			if left == 0 {
				least = min(least, cost)
			}
			return
		}
		for n := 1; n <= limit; n++ {
			if part := 1 << (limit - n); part <= left {
				try(i+1, left-part, cost+used[i]*n)
			}
		}
	}
	try(0, 1<<limit, 0)
	return least
}

func TestWhatIsRefused(t *testing.T) {
	for i, c := range []struct {
		weights []int
		limit   int
	}{
		{make([]int, 321), 15}, {[]int{1, -1}, 15}, {[]int{1, 1000001}, 15}, {[]int{1, 1}, 0}, {[]int{1, 1}, 16}, {nil, -1}, {nil, 0}, {[]int{1}, 0},
		{[]int{1, 1, 1}, 1}, {slices.Repeat([]int{1}, 17), 4}, {slices.Repeat([]int{1}, 257), 8}, {[]int{math.MinInt}, 15}, {[]int{math.MaxInt}, 15},
	} {
		if l, e := Lengths(c.weights, c.limit); e != api.ErrArg || l != nil {
			t.Error(i, l, e)
		}
	}
}

func TestFewWeights(t *testing.T) {
	for i, c := range []struct{ weights, want []int }{
		{nil, nil}, {[]int{0, 0}, []int{0, 0}}, {[]int{0, 7, 0}, []int{0, 1, 0}}, {[]int{1000000}, []int{1}},
		{[]int{5, 0, 3}, []int{1, 0, 1}}, {[]int{1, 1, 2}, []int{2, 2, 1}},
	} {
		for limit := 2; limit <= 15; limit++ {
			if l, e := Lengths(c.weights, limit); e != api.OK || !slices.Equal(l, c.want) {
				t.Error(i, limit, l, e)
			}
		}
	}
	if l, e := Lengths([]int{9, 1}, 1); e != api.OK || !slices.Equal(l, []int{1, 1}) {
		t.Error(l, e)
	}
}

func checkRow(t *testing.T, weights []int, limit int) []int {
	t.Helper()
	own := slices.Clone(weights)
	lens, e := Lengths(own, limit)
	if e != api.OK || len(lens) != len(weights) || !slices.Equal(own, weights) {
		t.Fatal(weights, limit, lens, e)
	}
	used := 0
	for i, w := range weights {
		if w == 0 && lens[i] != 0 || w > 0 && (lens[i] < 1 || lens[i] > limit) {
			t.Fatal(weights, limit, lens)
		}
		if w > 0 {
			used++
		}
	}
	if sum, one := Kraft(lens); used > 1 && sum != one {
		t.Fatal(weights, limit, lens, sum)
	}
	return lens
}

func TestNoShorterOnes(t *testing.T) {
	x := uint32(5)
	for range 300 {
		x = x*1664525 + 1013904223
		weights := make([]int, 2+x>>8%5)
		for i := range weights {
			x = x*1664525 + 1013904223
			weights[i] = int(x >> 24)
			if x>>16%4 == 0 {
				weights[i] *= 3000
			}
		}
		weights[0]++
		weights[1]++
		for _, limit := range []int{3, 4, 5} {
			lens := checkRow(t, weights, limit)
			if c, least := Cost(weights, lens), best(weights, limit); c != least {
				t.Fatal(weights, limit, lens, c, least)
			}
		}
	}
}

func TestLimitsThatBind(t *testing.T) {
	fibonacci := []int{1, 1}
	for len(fibonacci) < 25 {
		n := len(fibonacci)
		fibonacci = append(fibonacci, fibonacci[n-1]+fibonacci[n-2])
	}
	costs := map[int]int{}
	for limit := 5; limit <= 15; limit++ {
		costs[limit] = Cost(fibonacci, checkRow(t, fibonacci, limit))
		if limit > 5 && costs[limit] > costs[limit-1] {
			t.Error(limit, costs)
		}
	}
	if lens := checkRow(t, slices.Repeat([]int{3}, 256), 8); !slices.Equal(lens, slices.Repeat([]int{8}, 256)) {
		t.Error(lens)
	}
	checkRow(t, slices.Repeat([]int{1000000}, 320), 9)
	checkRow(t, []int{1, 2, 4, 8}, 2)
}

func TestEqualWeightsAreBalanced(t *testing.T) {
	for n := 2; n <= 320; n++ {
		weights := slices.Repeat([]int{7}, n)
		short := 0
		for 2<<short <= n {
			short++
		}
		// As many as fill up the row above go one deeper.
		want := 7 * (n*short + 2*(n-1<<short))
		if c := Cost(weights, checkRow(t, weights, 15)); c != want {
			t.Error(n, c, want)
		}
	}
}

func TestCostAndKraft(t *testing.T) {
	if c := Cost([]int{1, 2, 3}, []int{4, 5}); c != 14 {
		t.Error(c)
	}
	if Cost(nil, []int{1}) != 0 || Cost([]int{-2}, []int{3, 9}) != -6 {
		t.Error("Cost")
	}
	for i, c := range []struct {
		lens []int
		want int
	}{{nil, 0}, {[]int{0, -1, 16, math.MaxInt, math.MinInt}, 0}, {[]int{1}, 16384}, {[]int{15, 15}, 2}, {[]int{1, 2, 3, 3}, 32768}, {[]int{1, 1, 1}, 49152}} {
		if sum, one := Kraft(c.lens); sum != c.want || one != 32768 {
			t.Error(i, sum, one)
		}
	}
}
