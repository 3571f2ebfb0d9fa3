package write

import (
	"bytes"
	"math"
	"slices"
	"strings"
	"testing"

	"portmanteau/api"
	"portmanteau/entry"
	"portmanteau/read"
)

func file(name, data string) api.Entry {
	e := api.Entry{Kind: api.KFile, Name: name, Size: len(data)}
	if data != "" {
		e.Pieces = []api.Piece{{B: []byte(data)}}
	}
	return e
}

func some() []api.Entry {
	return []api.Entry{
		{Kind: api.KDir, Name: "d", Mode: 0o755}, file("d/f", "data"), {Kind: api.KSym, Name: "l", Link: "d"}, {Kind: api.KDump, Name: ".", Names: []string{"Dd", "Yl"}}, file(strings.Repeat("p/", 60)+"f", strings.Repeat("x", 1000)),
	}
}

func encoded(t *testing.T, form int, l []api.Entry) []byte {
	t.Helper()
	var b []byte
	for _, x := range l {
		told, e := entry.Encode(form, x)
		if e != api.OK {
			t.Fatal(e)
		}
		b = append(b, told...)
	}
	return b
}

func TestBody(t *testing.T) {
	for form := 1; form <= 3; form++ {
		l := some()
		if b, n, e := Body(form, l...); e != api.OK || n != len(l) || !bytes.Equal(b, encoded(t, form, l)) {
			t.Error(form, n, e)
		}
		bad := slices.Insert(some(), 2, api.Entry{})
		if b, n, e := Body(form, append(bad, file("x\x00", ""))...); e != api.ErrArg || n != 2 || !bytes.Equal(b, encoded(t, form, l[:2])) {
			t.Error(form, n, e)
		}
		if b, n, e := Body(form); len(b) != 0 || n != 0 || e != api.OK {
			t.Error(form, n, e)
		}
	}
	long := file(strings.Repeat("n", 101), "")
	if b, n, e := Body(api.FUstar, file("a", ""), long, api.Entry{}); e != api.ErrField || n != 1 || len(b) != 512 {
		t.Error(n, e)
	}
	if b, n, e := Body(4, file("a", "")); e != api.ErrArg || n != 0 || len(b) != 0 {
		t.Error(n, e)
	}
}

func TestEnd(t *testing.T) {
	for i, c := range []struct{ n, factor, want int }{
		{0, 1, 1024}, {0, 2, 1024}, {0, 3, 1536}, {0, 20, 10240}, {0, 64, 32768}, {0, 65, 32768}, {0, math.MaxInt, 32768}, {0, 0, 1024}, {0, -1, 1024}, {0, math.MinInt, 1024},
		{512, 1, 1536}, {512, 3, 1536}, {512, 2, 2048}, {9216, 20, 10240}, {9728, 20, 20480}, {1, 1, 1536}, {511, 2, 2048},
	} {
		b := bytes.Repeat([]byte{7}, c.n)
		room := append(make([]byte, 0, 100000), b...)
		got := End(room, c.factor)
		if len(got) != c.want || !bytes.Equal(got[:c.n], b) || !bytes.Equal(got[c.n:], make([]byte, c.want-c.n)) {
			t.Error(i, len(got))
		}
		if c.n > 0 {
			got[0] = 8
			if room[0] != 7 {
				t.Error("b is shared")
			}
		}
	}
}

func TestAll(t *testing.T) {
	if b, n, e := All(1, 1); !bytes.Equal(b, make([]byte, 1024)) || n != 0 || e != api.OK {
		t.Error(len(b), n, e)
	}
	for form := 1; form <= 3; form++ {
		l := some()
		for _, factor := range []int{0, 1, 7, 20, 64, 100} {
			b, n, e := All(form, factor, l...)
			if e != api.OK || n != len(l) || !bytes.Equal(b, End(encoded(t, form, l), factor)) {
				t.Error(form, factor, n, e)
			}
			if back, _, e := read.All(b); e != api.OK || !slices.EqualFunc(back, l, entry.Same) {
				t.Error(form, factor, e)
			}
		}
	}
	if b, n, e := All(2, 1, file("a", ""), file("b", ""), api.Entry{}); b != nil || n != 2 || e != api.ErrArg {
		t.Error(len(b), n, e)
	}
}

func TestAppend(t *testing.T) {
	l := some()
	for form := 1; form <= 3; form++ {
		for cut := range len(l) + 1 {
			first, _, _ := All(form, 20, l[:cut]...)
			own := bytes.Clone(first)
			b, e := Append(first, api.FPax, 3, l[cut:]...)
			if e != api.OK || len(b)%1536 != 0 || !bytes.Equal(first, own) {
				t.Fatal(form, cut, e)
			}
			ahead := encoded(t, form, l[:cut])
			if !bytes.HasPrefix(b, ahead) || !bytes.Equal(b, End(slices.Concat(ahead, encoded(t, api.FPax, l[cut:])), 3)) {
				t.Error(form, cut, "what was there is not as it was")
			}
			if back, _, e := read.All(b); e != api.OK || !slices.EqualFunc(back, l, entry.Same) {
				t.Error(form, cut, e)
			}
		}
	}
}

func TestAppendRefuses(t *testing.T) {
	good, _, _ := All(2, 1, some()...)
	junk := append(bytes.Clone(good), 1)
	for i, c := range []struct {
		b    []byte
		form int
		l    []api.Entry
		e    api.Errno
	}{
		{nil, 2, nil, api.ErrEnd}, {good[:700], 2, some(), api.ErrEnd}, {junk, 2, some(), api.ErrForm}, {junk, 2, []api.Entry{{}}, api.ErrForm}, {make([]byte, 513), 2, nil, api.ErrEnd},
		{good, 2, []api.Entry{{}}, api.ErrArg}, {good, 4, some(), api.ErrArg}, {good, 1, []api.Entry{file(strings.Repeat("n", 101), "")}, api.ErrField},
	} {
		if b, e := Append(c.b, c.form, 1, c.l...); b != nil || e != c.e {
			t.Error(i, len(b), e)
		}
	}
}
