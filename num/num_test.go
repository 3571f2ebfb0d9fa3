package num

import (
	"bytes"
	"math"
	"strings"
	"testing"
)

func TestOctal(t *testing.T) {
	for i, c := range []struct {
		n, width int
		want     string
	}{
		{8, 4, "010\x00"}, {0, 2, "0\x00"}, {7, 2, "7\x00"}, {8, 2, ""}, {0o7777777, 8, "7777777\x00"}, {0o10000000, 8, ""}, {1<<33 - 1, 12, "77777777777\x00"}, {1 << 33, 12, ""},
		{-1, 12, ""}, {math.MinInt, 12, ""}, {math.MaxInt, 12, ""}, {0, 1, ""}, {0, 13, ""}, {0, 0, ""}, {0, -1, ""}, {0, math.MaxInt, ""}, {5, 12, "00000000005\x00"},
	} {
		if b, ok := Octal(c.n, c.width); string(b) != c.want || ok != (c.want != "") {
			t.Errorf("%d: %q %v", i, b, ok)
		}
		if b, ok := Field(c.n, c.width, false); string(b) != c.want || ok != (c.want != "") {
			t.Errorf("%d: %q %v", i, b, ok)
		}
	}
}

func TestWide(t *testing.T) {
	for i, c := range []struct {
		n, width int
		want     []byte
	}{
		{0, 2, []byte{128, 0}}, {255, 2, []byte{128, 255}}, {256, 2, nil}, {-1, 2, []byte{255, 255}}, {-256, 2, []byte{255, 0}}, {-257, 2, nil}, {256, 3, []byte{128, 1, 0}},
		{1<<56 - 1, 8, []byte{128, 255, 255, 255, 255, 255, 255, 255}}, {1 << 56, 8, nil}, {-1 << 56, 8, []byte{255, 0, 0, 0, 0, 0, 0, 0}}, {-1<<56 - 1, 8, nil},
		{math.MaxInt, 9, []byte{128, 127, 255, 255, 255, 255, 255, 255, 255}}, {math.MinInt, 9, []byte{255, 128, 0, 0, 0, 0, 0, 0, 0}}, {math.MaxInt, 8, nil}, {math.MinInt, 8, nil},
		{math.MaxInt, 12, []byte{128, 0, 0, 0, 127, 255, 255, 255, 255, 255, 255, 255}}, {math.MinInt, 12, []byte{255, 255, 255, 255, 128, 0, 0, 0, 0, 0, 0, 0}}, {-2, 12, []byte{255, 255, 255, 255, 255, 255, 255, 255, 255, 255, 255, 254}},
		{0, 1, nil}, {0, 13, nil}, {0, -7, nil},
	} {
		if b, ok := Wide(c.n, c.width); !bytes.Equal(b, c.want) || ok != (c.want != nil) {
			t.Error(i, b, ok)
		}
	}
}

func TestField(t *testing.T) {
	for i, c := range []struct {
		n, width int
		wide     bool
		want     string
	}{{8, 4, true, "010\x00"}, {512, 4, true, "\x80\x00\x02\x00"}, {512, 4, false, ""}, {-1, 4, true, "\xff\xff\xff\xff"}, {-1, 4, false, ""}, {1 << 24, 4, true, ""}, {1, 1, true, ""}, {1, 13, true, ""}} {
		if b, ok := Field(c.n, c.width, c.wide); string(b) != c.want || ok != (c.want != "") {
			t.Errorf("%d: %q %v", i, b, ok)
		}
	}
}

func TestRead(t *testing.T) {
	for i, c := range []struct {
		b    string
		want int
		ok   bool
	}{
		{"010\x00", 8, true}, {"010", 8, true}, {"  7 \x00 ", 7, true}, {"\x00\x00", 0, true}, {"    ", 0, true}, {" ", 0, true}, {"0", 0, true}, {"777777777777", 1<<36 - 1, true}, {"7 \x00", 7, true}, {"7\x00 ", 7, true}, {" \x00", 0, true},
		{"", 0, false}, {"0000000000000", 0, false}, {"8", 0, false}, {"7x", 0, false}, {"-7", 0, false}, {"7 7", 0, false}, {"\x007", 0, false}, {"7\x007", 0, false}, {"\t7", 0, false}, {" 7\n", 0, false}, {"\x81\x00", 0, false}, {"\xfe\x00", 0, false},
		{"\x80", 0, true}, {"\xff", -1, true}, {"\x80\x01", 1, true}, {"\x80\xff", 255, true}, {"\xff\x00", -256, true}, {"\xff\xff", -1, true}, {"\x80 ", 32, true},
		{"\x80\x7f\xff\xff\xff\xff\xff\xff\xff", math.MaxInt, true}, {"\x80\x80\x00\x00\x00\x00\x00\x00\x00", 0, false}, {"\x80\x01\x00\x00\x00\x00\x00\x00\x00\x00", 0, false}, {"\x80\x00\x00\x00\x7f\xff\xff\xff\xff\xff\xff\xff", math.MaxInt, true}, {"\x80\x00\x00\x01\x00\x00\x00\x00\x00\x00\x00\x00", 0, false},
		{"\xff\x80\x00\x00\x00\x00\x00\x00\x00", math.MinInt, true}, {"\xff\x7f\xff\xff\xff\xff\xff\xff\xff", 0, false}, {"\xff\xff\xff\xff\x80\x00\x00\x00\x00\x00\x00\x00", math.MinInt, true}, {"\xff\xfe\xff\xff\x80\x00\x00\x00\x00\x00\x00\x00", 0, false}, {"\xff\xff\xff\xff\x7f\xff\xff\xff\xff\xff\xff\xff", 0, false},
	} {
		if n, ok := Read([]byte(c.b)); n != c.want || ok != c.ok {
			t.Errorf("%d: %q: %d %v", i, c.b, n, ok)
		}
	}
}

func TestThereAndBack(t *testing.T) {
	numbers := []int{0, 1, 7, 8, 255, 256, -1, -255, -256, -257, math.MaxInt, math.MinInt}
	for shift := range 63 {
		numbers = append(numbers, 1<<shift, 1<<shift-1, -1<<shift, -1<<shift-1)
	}
	for _, n := range numbers {
		for width := range 15 {
			octal, ok := Octal(n, width)
			if back, read := Read(octal); ok && (back != n || !read || len(octal) != width) {
				t.Error(n, width, back)
			}
			wide, ok := Wide(n, width)
			if back, read := Read(wide); ok && (back != n || !read || len(wide) != width) {
				t.Error(n, width, back)
			}
			if width >= 9 && width <= 12 && !ok {
				t.Error(n, "does not go into", width)
			}
		}
		if back, ok := Number(Digits(n)); back != n || !ok {
			t.Error(n, back)
		}
	}
}

func TestNumber(t *testing.T) {
	for s, want := range map[string]int{"0": 0, "7": 7, "-1": -1, "9223372036854775807": math.MaxInt, "-9223372036854775808": math.MinInt} {
		if n, ok := Number(s); n != want || !ok {
			t.Error(s, n, ok)
		}
		if Digits(want) != s {
			t.Error(Digits(want))
		}
	}
	for _, s := range []string{"", "-", "-0", "00", "01", "-01", "+1", " 1", "1 ", "1_0", "0x1", "1.0", "9223372036854775808", "-9223372036854775809", strings.Repeat("9", 100), "\x00", "１"} {
		if n, ok := Number(s); n != 0 || ok {
			t.Errorf("%q: %d", s, n)
		}
	}
}
