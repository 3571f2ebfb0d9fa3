package pax

import (
	"math"
	"slices"
	"strconv"
	"strings"
	"testing"

	"portmanteau/api"
)

func TestEncode(t *testing.T) {
	for i, c := range []struct {
		l    []api.KV
		want string
	}{
		{nil, ""}, {[]api.KV{{Key: "a", Value: "b"}}, "6 a=b\n"}, {[]api.KV{{Key: "a"}}, "5 a=\n"}, {[]api.KV{{Key: "path", Value: "x"}, {Key: "path", Value: "y\n=z"}}, "9 path=x\n13 path=y\n=z\n"},
		{[]api.KV{{Key: " ", Value: " "}}, "6  = \n"}, {[]api.KV{{Key: "\xff", Value: "\xfe"}}, "6 \xff=\xfe\n"},
	} {
		if b, ok := Encode(c.l...); string(b) != c.want || !ok {
			t.Errorf("%d: %q %v", i, b, ok)
		}
	}
	for i, r := range []api.KV{{}, {Value: "x"}, {Key: "a=b"}, {Key: "a\n"}, {Key: "\x00"}, {Key: "a", Value: "\x00"}, {Key: "a", Value: "b\x00c"}} {
		if b, ok := Encode(api.KV{Key: "ok", Value: "ok"}, r); b != nil || ok {
			t.Errorf("%d: %q", i, b)
		}
	}
}

func TestTheLeastLength(t *testing.T) {
	for n := range 1100 {
		value := strings.Repeat("v", n)
		b, ok := Encode(api.KV{Key: "k", Value: value})
		want := 0
		for size := 1; want == 0; size++ {
			if len(strconv.Itoa(size))+len(" k=\n")+n == size {
				want = size
			}
		}
		if !ok || len(b) != want || !strings.HasPrefix(string(b), strconv.Itoa(want)+" k=") {
			t.Error(n, len(b), want)
		}
		if l, e := Decode(b); e != api.OK || !slices.Equal(l, []api.KV{{Key: "k", Value: value}}) {
			t.Error(n, e)
		}
	}
}

func TestRecordsAreBounded(t *testing.T) {
	value := strings.Repeat("v", 65536-len("65536 k=\n"))
	b, ok := Encode(api.KV{Key: "k", Value: value})
	if len(b) != 65536 || !ok {
		t.Error(len(b), ok)
	}
	if l, e := Decode(b); len(l) != 1 || e != api.OK {
		t.Error(e)
	}
	if b, ok := Encode(api.KV{Key: "k", Value: value + "v"}); b != nil || ok {
		t.Error("one more")
	}
	if b, ok := Encode(api.KV{Key: "k", Value: value[6:]}, api.KV{Key: "a", Value: ""}); len(b) != 65535 || !ok {
		t.Error(len(b), ok)
	}
	if _, ok := Encode(api.KV{Key: "k", Value: value}, api.KV{Key: "a", Value: ""}); ok {
		t.Error("one record more")
	}
	if l, e := Decode([]byte("65537 k=v" + value + "\n")); l != nil || e != api.ErrPax {
		t.Error(e)
	}
	if l, e := Decode([]byte(strings.Repeat("6 a=b\n", 10923))); l != nil || e != api.ErrPax {
		t.Error(len(l), e)
	}
}

func TestDecode(t *testing.T) {
	for i, c := range []struct {
		b    string
		want []api.KV
	}{
		{"", nil}, {"6 a=b\n", []api.KV{{Key: "a", Value: "b"}}}, {"5 a=\n", []api.KV{{Key: "a"}}}, {"8 a=b\nc\n7 a=b=\n", []api.KV{{Key: "a", Value: "b\nc"}, {Key: "a", Value: "b="}}}, {"6 a= \n6  =x\n", []api.KV{{Key: "a", Value: " "}, {Key: " ", Value: "x"}}},
	} {
		if l, e := Decode([]byte(c.b)); !slices.Equal(l, c.want) || e != api.OK {
			t.Errorf("%d: %q %v", i, l, e)
		}
	}
	for i, b := range []string{
		"x", "6", "6 ", "6 a=b", "7 a=b\n", "5 a=b\n", "06 a=b\n", "+6 a=b\n", "-6 a=b\n", " 6 a=b\n", "6  a=b\n", "4 =\n", "5 =b\n", "5 ab\n", "7 a\nb=\n", "8 a\x00b=c\n", "7 a=\x00b\n", "6 a=b\r", "6 a=b\n\n", "6 a=b\n6", "6 a=b\n6 a=b", "0 \n", "1 ", "2 \n", "3 \n",
		"\n", "6\ta=b\n", "99999999999999999999 a=b\n", "100 a=" + strings.Repeat("v", 94) + "\n" + "x", "6 a=b\n\x00\x00", "100 k=" + strings.Repeat("v", 93) + "\n",
	} {
		if l, e := Decode([]byte(b)); l != nil || e != api.ErrPax {
			t.Errorf("%d: %q %v", i, l, e)
		}
	}
}

func TestTheLongerLengthIsNone(t *testing.T) {
	// 99 and 100 both count themselves; the least is told.
	rest := " k=" + strings.Repeat("v", 93) + "\n"
	if b, _ := Encode(api.KV{Key: "k", Value: rest[3 : len(rest)-1]}); string(b) != "99"+rest {
		t.Errorf("%q", b)
	}
	if l, e := Decode([]byte("100" + rest)); l != nil || e != api.ErrPax {
		t.Error(l, e)
	}
}

func TestGet(t *testing.T) {
	l := []api.KV{{Key: "a", Value: "1"}, {Key: "b", Value: "2"}, {Key: "a", Value: "3"}, {Key: "b"}}
	for key, want := range map[string]string{"a": "3", "b": "", "c": "", "": ""} {
		if v, ok := Get(l, key); v != want || ok != (want != "") {
			t.Error(key, v, ok)
		}
	}
	if v, ok := Get(nil, "a"); v != "" || ok {
		t.Error(v, ok)
	}
}

func TestTime(t *testing.T) {
	for s, want := range map[string]int{
		"0": 0, "-0": 0, "-0.0": 0, "1": 1000000000, "-1": -1000000000, "1.5": 1500000000, "-1.5": -1500000000, "0.000000001": 1, "-0.000000001": -1, "1.0000000019": 1000000001, "-1.0000000019": -1000000001,
		"007": 7000000000, "0000000000000000001": 1000000000, "9223372036.854775807": math.MaxInt, "-9223372036.854775808": math.MinInt, "9223372036.8547758079": math.MaxInt, "-9223372036.854775808999": math.MinInt, "0." + strings.Repeat("9", 30): 999999999,
	} {
		if ns, ok := Time(s); ns != want || !ok {
			t.Error(s, ns, ok)
		}
	}
	for _, s := range []string{
		"", "-", ".", "1.", ".5", "-.5", "+1", "--1", " 1", "1 ", "1e3", "1.5.5", "1.-5", "1,5", "00000000000000000001", "0." + strings.Repeat("0", 31), "9223372036.854775808", "-9223372036.854775809", "9223372037", "-9223372037", "9999999999999999999", "x", "1\x00", "1.123456789x", "1.1234567890-", "12x", "1:2", "1/2",
	} {
		if ns, ok := Time(s); ns != 0 || ok {
			t.Errorf("%q: %d", s, ns)
		}
	}
}

func TestTimeText(t *testing.T) {
	for ns, want := range map[int]string{
		0: "0", 1: "0.000000001", -1: "-0.000000001", 1000000000: "1", -1000000000: "-1", 1500000000: "1.5", -1500000000: "-1.5", 10: "0.00000001", 1000000010: "1.00000001", math.MaxInt: "9223372036.854775807", math.MinInt: "-9223372036.854775808",
	} {
		if s := TimeText(ns); s != want {
			t.Error(ns, s)
		}
		if back, ok := Time(want); back != ns || !ok {
			t.Error(ns, back, ok)
		}
	}
}
