package head

import (
	"bytes"
	"math"
	"slices"
	"strings"
	"testing"

	"portmanteau/api"
)

func heads() []api.Head {
	long := strings.Repeat("n", 100)
	return []api.Head{
		{}, {Name: "a", Type: '0', Mode: 0o644, Size: 5, Time: 1700000000}, {Name: long, Link: long, Prefix: strings.Repeat("p", 155), Type: '2'},
		{Name: "a", Mode: 0o7777777, User: 0o7777777, Group: 0o7777777, Size: 1<<33 - 1, Time: 1<<33 - 1, Major: 0o7777777, Minor: 0o7777777, Type: 255},
		{Gnu: true}, {Gnu: true, Name: long, Link: long, Type: 'L', Mode: -1, User: 1<<56 - 1, Group: -1 << 56, Size: math.MaxInt, Time: math.MinInt, Major: 1 << 21, Minor: 7},
	}
}

func TestBlockByteByByte(t *testing.T) {
	h := api.Head{Name: "name", Link: "link", Prefix: "prefix", Type: '1', Mode: 0o644, User: 1, Group: 2, Size: 3, Time: 4, Major: 5, Minor: 6}
	b, e := Encode(h)
	want := make([]byte, 512)
	for at, s := range map[int]string{
		0: "name", 100: "0000644\x00", 108: "0000001\x00", 116: "0000002\x00", 124: "00000000003\x00", 136: "00000000004\x00",
		156: "1", 157: "link", 257: "ustar\x0000", 329: "0000005\x00", 337: "0000006\x00", 345: "prefix",
	} {
		copy(want[at:], s)
	}
	sum := 8 * 32
	for _, x := range want {
		sum += int(x)
	}
	digits := []byte("000000\x00 ")
	for i := 5; i >= 0; i-- {
		digits[i] = '0' + byte(sum&7)
		sum >>= 3
	}
	copy(want[148:], digits)
	if e != api.OK || !bytes.Equal(b, want) {
		t.Errorf("%v\n%q\n%q", e, b, want)
	}
	h.Gnu, h.Prefix, h.User = true, "", 1<<21
	b, e = Encode(h)
	if e != api.OK || string(b[257:265]) != "ustar  \x00" || string(b[108:116]) != "\x80\x00\x00\x00\x00\x20\x00\x00" || string(b[345:]) != strings.Repeat("\x00", 167) {
		t.Errorf("%v %q", e, b)
	}
}

func TestThereAndBack(t *testing.T) {
	for i, h := range heads() {
		b, e := Encode(h)
		if e != api.OK || len(b) != 512 {
			t.Fatal(i, e)
		}
		if back, e := Decode(b); e != api.OK || back != h {
			t.Errorf("%d: %+v %v", i, back, e)
		}
		if string(b[265:329]) != strings.Repeat("\x00", 64) || string(b[500:]) != strings.Repeat("\x00", 12) {
			t.Error(i, "what is between is not noughts")
		}
	}
}

func TestEncodeRefuses(t *testing.T) {
	for i, h := range []api.Head{
		{Name: strings.Repeat("n", 101)}, {Link: strings.Repeat("n", 101)}, {Prefix: strings.Repeat("n", 156)}, {Name: "a\x00"}, {Link: "\x00"}, {Prefix: "a\x00b"},
		{Mode: -1}, {User: 1 << 21}, {Group: 1 << 21}, {Size: 1 << 33}, {Time: -1}, {Major: 1 << 21}, {Minor: -1}, {Mode: 1 << 21}, {Size: -1}, {Time: 1 << 33},
		{Gnu: true, Prefix: "p"}, {Gnu: true, User: 1 << 56}, {Gnu: true, Minor: -1<<56 - 1}, {Gnu: true, Name: "\x00"},
	} {
		if b, e := Encode(h); e != api.ErrField || b != nil {
			t.Error(i, e)
		}
	}
}

// patched is the block of a head with other bytes at a place, and the sum that fits.
func patched(h api.Head, at int, s string) []byte {
	b, _ := Encode(h)
	copy(b[at:], s)
	return summed(b)
}

func summed(b []byte) []byte {
	digits := []byte("000000\x00 ")
	for i, sum := 5, Sum(b); i >= 0; i-- {
		digits[i] = '0' + byte(sum&7)
		sum >>= 3
	}
	copy(b[148:], digits)
	return b
}

func TestDecodeRefuses(t *testing.T) {
	good, _ := Encode(api.Head{Name: "a", Size: 3})
	noSum := func(b []byte) []byte { b[150] ^= 1; return b }
	for i, c := range []struct {
		b []byte
		e api.Errno
	}{
		{nil, api.ErrHead}, {good[:511], api.ErrHead}, {append(slices.Clone(good), 0), api.ErrHead}, {make([]byte, 512), api.ErrHead},
		{patched(api.Head{}, 257, "ustar\x0001"), api.ErrHead}, {patched(api.Head{}, 257, "ustar \x0000"), api.ErrHead}, {patched(api.Head{}, 257, "Ustar"), api.ErrHead}, {noSum(patched(api.Head{}, 257, "x")), api.ErrHead},
		{noSum(slices.Clone(good)), api.ErrSum}, {noSum(patched(api.Head{}, 100, "x")), api.ErrSum},
		{patched(api.Head{}, 100, "8"), api.ErrHead}, {patched(api.Head{}, 108, "x"), api.ErrHead}, {patched(api.Head{}, 116, "-"), api.ErrHead}, {patched(api.Head{}, 124, "\x80\xff"), api.ErrHead}, {patched(api.Head{}, 124, "\xff\xff\xff\xff\xff\xff\xff\xff\xff\xff\xff\xff"), api.ErrHead},
		{patched(api.Head{}, 136, "\x81"), api.ErrHead}, {patched(api.Head{}, 329, "9"), api.ErrHead}, {patched(api.Head{}, 337, "7x"), api.ErrHead},
	} {
		if h, e := Decode(c.b); e != c.e || h != (api.Head{}) {
			t.Error(i, h, e)
		}
	}
}

func TestDecodeReadsMore(t *testing.T) {
	for i, c := range []struct {
		b    []byte
		want api.Head
	}{
		{patched(api.Head{}, 0, "a\x00b"), api.Head{Name: "a"}}, {patched(api.Head{Gnu: true}, 345, "p"), api.Head{Gnu: true}}, {patched(api.Head{}, 124, "     7 \x00    "), api.Head{Size: 7}},
		{patched(api.Head{}, 108, "\xff\xff\xff\xff\xff\xff\xff\xfe"), api.Head{User: -2}}, {patched(api.Head{}, 265, "root"), api.Head{}}, {patched(api.Head{}, 136, "        \x00\x00\x00\x00"), api.Head{}},
	} {
		if h, e := Decode(c.b); e != api.OK || h != c.want {
			t.Errorf("%d: %+v %v", i, h, e)
		}
	}
	// The sum itself may be told otherwise.
	b, _ := Encode(api.Head{Name: "a"})
	copy(b[148:], "  "+string(b[150:154])+" \x00")
	if h, e := Decode(b); e != api.OK || h.Name != "a" {
		t.Error(h, e)
	}
}

func TestOneByteChanged(t *testing.T) {
	for i, h := range heads() {
		b, _ := Encode(h)
		for at := range b {
			if at >= 148 && at < 156 {
				continue
			}
			for _, turn := range []byte{1, 0x10, 0x80, 0xff} {
				q := slices.Clone(b)
				q[at] ^= turn
				if _, e := Decode(q); e != api.ErrHead && e != api.ErrSum {
					t.Error(i, at, turn, e)
				}
			}
		}
		q := slices.Clone(b)
		q[153]++
		if _, e := Decode(q); e != api.ErrSum {
			t.Error(i, "another sum", e)
		}
	}
}

func TestSumAndZero(t *testing.T) {
	b := make([]byte, 512)
	if Sum(b) != 256 || !Zero(b) {
		t.Error(Sum(b))
	}
	for i := range b {
		b[i] = 255
	}
	if Sum(b) != 255*504+256 || Zero(b) {
		t.Error(Sum(b))
	}
	for _, n := range []int{0, 511, 513, 1024} {
		if Sum(bytes.Repeat([]byte{1}, n)) != 0 || Zero(make([]byte, n)) {
			t.Error(n)
		}
	}
	for _, at := range []int{0, 148, 511} {
		b := make([]byte, 512)
		b[at] = 1
		if Zero(b) {
			t.Error(at)
		}
	}
}

func TestSplit(t *testing.T) {
	n := func(n int) string { return strings.Repeat("n", n) }
	for i, c := range []struct {
		path, prefix, last string
		ok                 bool
	}{
		{"", "", "", false}, {"a", "", "a", true}, {"a/b/c", "", "a/b/c", true}, {n(100), "", n(100), true}, {n(101), "", "", false}, {n(99) + "/", "", n(99) + "/", true},
		{n(100) + "/", "", "", false}, {"a/" + n(100), "a", n(100), true}, {"a/" + n(101), "", "", false}, {"/" + n(100), "", "", false}, {"//" + n(100), "/", n(100), true}, {"a/" + n(99) + "/", "a", n(99) + "/", true}, {"a/" + n(100) + "/", "", "", false},
		{n(155) + "/" + n(100), n(155), n(100), true}, {n(156) + "/b", "", "", false}, {"a/" + n(60) + "/" + n(60), "a/" + n(60), n(60), true}, {"a/" + n(153) + "/" + n(60), "a/" + n(153), n(60), true}, {"a/" + n(154) + "/" + n(60), "", "", false},
		{n(90) + "/" + n(80) + "/" + n(10), n(90), n(80) + "/" + n(10), true}, {n(120) + "//", n(120), "/", true}, {n(120) + "/", "", "", false}, {n(160) + "/" + n(10), "", "", false},
	} {
		prefix, last, ok := Split(c.path)
		if prefix != c.prefix || last != c.last || ok != c.ok {
			t.Errorf("%d: %q %q %v", i, prefix, last, ok)
		}
	}
}
