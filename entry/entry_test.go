package entry

import (
	"archive/tar"
	"bytes"
	"io"
	"math"
	"slices"
	"strings"
	"testing"

	"portmanteau/api"
	"portmanteau/head"
	"portmanteau/pax"
	"portmanteau/sparse"
)

func n(size int) string { return strings.Repeat("n", size) }

func piece(at int, s string) api.Piece { return api.Piece{At: at, B: []byte(s)} }

func file(name, data string) api.Entry {
	e := api.Entry{Kind: api.KFile, Name: name, Size: len(data)}
	if data != "" {
		e.Pieces = []api.Piece{piece(0, data)}
	}
	return e
}

func names(count int) []string {
	return slices.Repeat([]string{"Yn"}, count)
}

func TestOk(t *testing.T) {
	for i, e := range []api.Entry{
		file("a", ""), file("a", "x"), file(n(4096), ""), file("/", ""), file("..", ""), file("a/", ""), {Kind: api.KFile, Name: "a", Size: 1 << 40, Pieces: []api.Piece{piece(7, "x")}},
		{Kind: api.KFile, Name: "a", Mode: 0o7777, User: 1<<31 - 1, Group: 1<<31 - 1, Time: math.MinInt}, {Kind: api.KHard, Name: "a", Link: n(4096)}, {Kind: api.KSym, Name: "a", Link: "/"},
		{Kind: api.KChar, Name: "a", Major: 1<<20 - 1, Minor: 1<<20 - 1}, {Kind: api.KBlock, Name: "a"}, {Kind: api.KDir, Name: "."}, {Kind: api.KDir, Name: "/a"}, {Kind: api.KFifo, Name: "a"},
		{Kind: api.KDump, Name: "a"}, {Kind: api.KDump, Name: "a", Names: []string{"Ya", "Nb", "Dc", "Y" + n(255), "Da"}}, {Kind: api.KDump, Name: "a", Names: names(1000)},
	} {
		if !Ok(e) {
			t.Error(i)
		}
	}
	for i, e := range bad() {
		if Ok(e) {
			t.Error(i)
		}
		for form := range 5 {
			if b, errno := Encode(form, e); errno != api.ErrArg || b != nil {
				t.Error(i, form, errno)
			}
		}
	}
}

func bad() []api.Entry {
	return []api.Entry{
		{}, {Kind: api.KFile}, {Kind: 9, Name: "a"}, {Kind: -1, Name: "a"}, file(n(4097), ""), file("a\x00", ""), {Kind: api.KDir, Name: "a/"}, {Kind: api.KDump, Name: "/"}, {Kind: api.KDir, Name: ""},
		{Kind: api.KHard, Name: "a"}, {Kind: api.KSym, Name: "a"}, {Kind: api.KSym, Name: "a", Link: n(4097)}, {Kind: api.KSym, Name: "a", Link: "\x00"}, {Kind: api.KFile, Name: "a", Link: "b"}, {Kind: api.KDump, Name: "a", Link: "b"},
		{Kind: api.KFile, Name: "a", Mode: 0o10000}, {Kind: api.KFile, Name: "a", Mode: -1}, {Kind: api.KFile, Name: "a", User: -1}, {Kind: api.KFile, Name: "a", User: 1 << 31}, {Kind: api.KDir, Name: "a", Group: 1 << 31}, {Kind: api.KDir, Name: "a", Group: -1},
		{Kind: api.KFile, Name: "a", Major: 1}, {Kind: api.KDir, Name: "a", Minor: 1}, {Kind: api.KChar, Name: "a", Major: 1 << 20}, {Kind: api.KChar, Name: "a", Minor: -1}, {Kind: api.KBlock, Name: "a", Minor: 1 << 20},
		{Kind: api.KFile, Name: "a", Size: -1}, {Kind: api.KFile, Name: "a", Size: 1<<40 + 1}, {Kind: api.KFile, Name: "a", Pieces: []api.Piece{piece(0, "x")}}, {Kind: api.KFile, Name: "a", Size: 9, Pieces: []api.Piece{piece(3, "x"), piece(4, "x")}},
		{Kind: api.KDir, Name: "a", Size: 1}, {Kind: api.KSym, Name: "a", Link: "b", Size: 1}, {Kind: api.KFifo, Name: "a", Pieces: []api.Piece{piece(0, "x")}},
		{Kind: api.KDir, Name: "a", Names: []string{"Ya"}}, {Kind: api.KFile, Name: "a", Names: []string{"Ya"}}, {Kind: api.KDump, Name: "a", Names: []string{""}}, {Kind: api.KDump, Name: "a", Names: []string{"Y"}}, {Kind: api.KDump, Name: "a", Names: []string{"ya"}}, {Kind: api.KDump, Name: "a", Names: []string{"Ya", "Ra"}},
		{Kind: api.KDump, Name: "a", Names: []string{"Y.."}}, {Kind: api.KDump, Name: "a", Names: []string{"Ya/b"}}, {Kind: api.KDump, Name: "a", Names: []string{"Y" + n(256)}}, {Kind: api.KDump, Name: "a", Names: names(1001)},
	}
}

// told is a block and its data, as head and Pad tell them.
func told(t *testing.T, h api.Head, data string) []byte {
	t.Helper()
	h.Size = len(data)
	b, e := head.Encode(h)
	if e != api.OK {
		t.Fatal(e)
	}
	return slices.Concat(b, []byte(data), make([]byte, Pad(len(data))))
}

func records(l ...string) string {
	var all []api.KV
	for i := 0; i < len(l); i += 2 {
		all = append(all, api.KV{Key: l[i], Value: l[i+1]})
	}
	b, _ := pax.Encode(all...)
	return string(b)
}

func check(t *testing.T, form int, e api.Entry, want ...[]byte) {
	t.Helper()
	b, errno := Encode(form, e)
	if all := slices.Concat(want...); errno != api.OK || !bytes.Equal(b, all) {
		t.Errorf("form %d, kind %d: %v\n%q\n%q", form, e.Kind, errno, b, all)
	}
	if len(b)%512 != 0 {
		t.Error(len(b))
	}
}

func TestEachKindInEachForm(t *testing.T) {
	base := api.Entry{Name: "a/b", Mode: 0o644, User: 1, Group: 2, Time: 3000000000}
	for _, x := range []struct {
		kind       int
		typ        byte
		name, data string
		with       func(*api.Entry)
	}{
		{api.KFile, '0', "a/b", "data", func(e *api.Entry) { e.Size, e.Pieces = 4, []api.Piece{piece(0, "data")} }},
		{api.KFile, '0', "a/b", "", func(e *api.Entry) {}},
		{api.KHard, '1', "a/b", "", func(e *api.Entry) { e.Link = "l" }}, {api.KSym, '2', "a/b", "", func(e *api.Entry) { e.Link = "../l" }},
		{api.KChar, '3', "a/b", "", func(e *api.Entry) { e.Major, e.Minor = 5, 6 }}, {api.KBlock, '4', "a/b", "", func(e *api.Entry) { e.Major, e.Minor = 1<<20-1, 0 }},
		{api.KDir, '5', "a/b/", "", func(e *api.Entry) {}}, {api.KFifo, '6', "a/b", "", func(e *api.Entry) {}},
		{api.KDump, 'D', "a/b/", "Yx\x00Dy\x00\x00", func(e *api.Entry) { e.Names = []string{"Yx", "Dy"} }}, {api.KDump, 'D', "a/b/", "\x00", func(e *api.Entry) {}},
	} {
		e := base
		e.Kind = x.kind
		x.with(&e)
		h := api.Head{Name: x.name, Link: e.Link, Type: x.typ, Mode: 0o644, User: 1, Group: 2, Time: 3, Major: e.Major, Minor: e.Minor}
		check(t, api.FUstar, e, told(t, h, x.data))
		check(t, api.FPax, e, told(t, h, x.data))
		h.Gnu = true
		check(t, api.FGnu, e, told(t, h, x.data))
		for _, form := range []int{-1, 0, 4, math.MaxInt} {
			if b, errno := Encode(form, e); errno != api.ErrArg || b != nil {
				t.Error(form, errno)
			}
		}
	}
}

func TestLongNames(t *testing.T) {
	split := "p/" + n(60) + "/" + n(60)
	check(t, api.FUstar, file(split, ""), told(t, api.Head{Prefix: "p/" + n(60), Name: n(60), Type: '0'}, ""))
	check(t, api.FPax, file(split, ""), told(t, api.Head{Prefix: "p/" + n(60), Name: n(60), Type: '0'}, ""))
	gnuLong := func(kind byte, s string) []byte {
		return told(t, api.Head{Name: "././@LongLink", Type: kind, Gnu: true}, s+"\x00")
	}
	check(t, api.FGnu, file(split, ""), gnuLong('L', split), told(t, api.Head{Gnu: true, Name: split[:100], Type: '0'}, ""))
	check(t, api.FGnu, file(n(100), ""), told(t, api.Head{Gnu: true, Name: n(100), Type: '0'}, ""))
	check(t, api.FGnu, api.Entry{Kind: api.KDir, Name: n(100)}, gnuLong('L', n(100)+"/"), told(t, api.Head{Gnu: true, Name: n(100), Type: '5'}, ""))
	check(t, api.FGnu, api.Entry{Kind: api.KSym, Name: n(101), Link: "l" + n(100)}, gnuLong('K', "l"+n(100)), gnuLong('L', n(101)), told(t, api.Head{Gnu: true, Name: n(100), Link: "l" + n(99), Type: '2'}, ""))
	check(t, api.FGnu, api.Entry{Kind: api.KHard, Name: "a", Link: n(4096)}, gnuLong('K', n(4096)), told(t, api.Head{Gnu: true, Name: "a", Link: n(100), Type: '1'}, ""))
	long := func(l ...string) []byte { return told(t, api.Head{Name: "pax", Type: 'x'}, records(l...)) }
	check(t, api.FPax, file(n(101), ""), long("path", n(101)), told(t, api.Head{Name: n(100), Type: '0'}, ""))
	check(t, api.FPax, api.Entry{Kind: api.KDir, Name: n(100)}, long("path", n(100)+"/"), told(t, api.Head{Name: n(100), Type: '5'}, ""))
	check(t, api.FPax, api.Entry{Kind: api.KSym, Name: n(4096), Link: n(101)}, long("path", n(4096), "linkpath", n(101)), told(t, api.Head{Name: n(100), Link: n(100), Type: '2'}, ""))
	check(t, api.FPax, api.Entry{Kind: api.KHard, Name: split, Link: n(100)}, told(t, api.Head{Prefix: "p/" + n(60), Name: n(60), Link: n(100), Type: '1'}, ""))
}

func TestNumbersThatDoNotGoIn(t *testing.T) {
	e := api.Entry{Kind: api.KFifo, Name: "a", User: 1 << 21, Group: 1<<31 - 1, Time: -1}
	check(t, api.FGnu, e, told(t, api.Head{Gnu: true, Name: "a", Type: '6', User: 1 << 21, Group: 1<<31 - 1, Time: -1}, ""))
	check(t, api.FPax, e, told(t, api.Head{Name: "pax", Type: 'x'}, records("uid", "2097152", "gid", "2147483647", "mtime", "-0.000000001")), told(t, api.Head{Name: "a", Type: '6'}, ""))
	e = api.Entry{Kind: api.KFifo, Name: "a", User: 1<<21 - 1, Group: 1<<21 - 1}
	check(t, api.FPax, e, told(t, api.Head{Name: "a", Type: '6', User: 1<<21 - 1, Group: 1<<21 - 1}, ""))
	for i, x := range []struct {
		time, seconds int
		mtime         string
	}{{5000000000, 5, ""}, {5000000001, 5, "5.000000001"}, {8589934591e9, 1<<33 - 1, ""}, {8589934592e9, 1 << 33, "8589934592"}, {-3000000000, -3, "-3"}, {-3500000000, -4, "-3.5"}, {0, 0, ""}} {
		e := api.Entry{Kind: api.KFifo, Name: "a", Time: x.time}
		check(t, api.FGnu, e, told(t, api.Head{Gnu: true, Name: "a", Type: '6', Time: x.seconds}, ""))
		if x.mtime == "" {
			check(t, api.FPax, e, told(t, api.Head{Name: "a", Type: '6', Time: x.seconds}, ""))
		} else {
			check(t, api.FPax, e, told(t, api.Head{Name: "pax", Type: 'x'}, records("mtime", x.mtime)), told(t, api.Head{Name: "a", Type: '6'}, ""))
		}
		if _, errno := Encode(api.FUstar, e); (errno == api.ErrField) != (x.seconds < 0 || x.seconds >= 1<<33) {
			t.Error(i, errno)
		}
	}
}

func TestHoles(t *testing.T) {
	e := api.Entry{Kind: api.KFile, Name: "a", Size: 9, Pieces: []api.Piece{piece(2, "xy")}, Time: 1000000000}
	for _, form := range []int{api.FUstar, api.FGnu} {
		check(t, form, e, told(t, api.Head{Gnu: form == api.FGnu, Name: "a", Type: '0', Time: 1}, "\x00\x00xy\x00\x00\x00\x00\x00"))
	}
	holes := []string{"GNU.sparse.major", "1", "GNU.sparse.minor", "0", "GNU.sparse.name", "a", "GNU.sparse.realsize", "9"}
	data, _ := sparse.Encode(9, e.Pieces)
	check(t, api.FPax, e, told(t, api.Head{Name: "pax", Type: 'x'}, records(holes...)), told(t, api.Head{Name: "a", Type: '0', Time: 1}, string(data)))
	e.Name, e.Time, e.User = n(150), 1, 1<<21
	holes[5] = n(150)
	check(t, api.FPax, e, told(t, api.Head{Name: "pax", Type: 'x'}, records(append([]string{"path", n(150), "uid", "2097152", "mtime", "0.000000001"}, holes...)...)), told(t, api.Head{Name: n(100), Type: '0'}, string(data)))
	e = api.Entry{Kind: api.KFile, Name: "p/" + n(100), Size: 9}
	holes[5] = e.Name
	data, _ = sparse.Encode(9, nil)
	check(t, api.FPax, e, told(t, api.Head{Name: "pax", Type: 'x'}, records(holes...)), told(t, api.Head{Name: e.Name[:100], Type: '0'}, string(data)))
}

func TestWhatAFormCantTell(t *testing.T) {
	great := api.Entry{Kind: api.KFile, Name: "a", Size: 1<<20 + 1, Pieces: []api.Piece{piece(0, n(1<<20+1))}}
	holes := api.Entry{Kind: api.KFile, Name: "a", Size: 1 << 40}
	for i, x := range []struct {
		e    api.Entry
		want [3]api.Errno
	}{
		{great, [3]api.Errno{api.ErrField, api.ErrField, api.ErrField}}, {holes, [3]api.Errno{api.ErrField, api.OK, api.ErrField}}, {file("a", n(1<<20)), [3]api.Errno{}},
		{file(n(101), ""), [3]api.Errno{api.ErrField, api.OK, api.OK}}, {api.Entry{Kind: api.KDir, Name: n(100)}, [3]api.Errno{api.ErrField, api.OK, api.OK}}, {api.Entry{Kind: api.KDir, Name: n(99)}, [3]api.Errno{}},
		{api.Entry{Kind: api.KSym, Name: "a", Link: n(101)}, [3]api.Errno{api.ErrField, api.OK, api.OK}}, {api.Entry{Kind: api.KDir, Name: "a", User: 1 << 21}, [3]api.Errno{api.ErrField, api.OK, api.OK}}, {api.Entry{Kind: api.KDir, Name: "a", Group: 1 << 21}, [3]api.Errno{api.ErrField, api.OK, api.OK}},
		{api.Entry{Kind: api.KDir, Name: "a", Time: -1}, [3]api.Errno{api.ErrField, api.OK, api.OK}}, {api.Entry{Kind: api.KDump, Name: "a", Names: names(1000)}, [3]api.Errno{}},
	} {
		for form := 1; form <= 3; form++ {
			b, errno := Encode(form, x.e)
			if errno != x.want[form-1] || (errno != api.OK) != (b == nil) {
				t.Error(i, form, errno)
			}
		}
	}
}

func TestTheLibraryReadsThem(t *testing.T) {
	l := []api.Entry{
		file("a", "data"), file(n(200), n(700)), {Kind: api.KDir, Name: "d/" + n(180), Mode: 0o755, Time: 1500000000}, {Kind: api.KSym, Name: "s", Link: n(300), User: 1 << 30}, {Kind: api.KHard, Name: n(120), Link: n(110)},
		{Kind: api.KChar, Name: "c", Major: 7, Minor: 8}, {Kind: api.KFifo, Name: "f", Time: -2500000000}, {Kind: api.KFile, Name: "h", Size: 5000, Pieces: []api.Piece{piece(100, "abc"), piece(4999, "z")}},
	}
	for _, form := range []int{api.FPax, api.FGnu} {
		var all []byte
		for _, e := range l {
			b, errno := Encode(form, e)
			if errno != api.OK {
				t.Fatal(form, e.Name, errno)
			}
			all = append(all, b...)
		}
		r := tar.NewReader(bytes.NewReader(append(all, make([]byte, 1024)...)))
		for _, e := range l {
			h, err := r.Next()
			if err != nil {
				t.Fatal(form, e.Name, err)
			}
			time := e.Time
			if form == api.FGnu {
				time = seconds(e) * second
			}
			if h.Name != path(e) || h.Linkname != e.Link || int(h.Mode) != e.Mode || h.Uid != e.User || int(h.ModTime.UnixNano()) != time || int(h.Devmajor) != e.Major || int(h.Devminor) != e.Minor || int(h.Size) != e.Size {
				t.Errorf("%d: %+v", form, h)
			}
			data, err := io.ReadAll(r)
			if want, _ := sparse.Dense(e.Size, e.Pieces); err != nil || !bytes.Equal(data, want) {
				t.Error(form, e.Name, err)
			}
		}
	}
}

func TestSame(t *testing.T) {
	e := api.Entry{Kind: 1, Name: "a", Link: "b", Mode: 2, User: 3, Group: 4, Time: 5, Major: 6, Minor: 7, Size: 8, Pieces: []api.Piece{piece(1, "x")}, Names: []string{"Ya"}}
	twin := e
	twin.Pieces, twin.Names = []api.Piece{piece(1, "x")}, []string{"Ya"}
	if !Same(e, twin) || !Same(api.Entry{}, api.Entry{Pieces: []api.Piece{}, Names: []string{}}) {
		t.Error("Same")
	}
	for i, change := range []func(*api.Entry){
		func(e *api.Entry) { e.Kind++ }, func(e *api.Entry) { e.Name = "" }, func(e *api.Entry) { e.Link = "" }, func(e *api.Entry) { e.Mode++ }, func(e *api.Entry) { e.User++ }, func(e *api.Entry) { e.Group++ },
		func(e *api.Entry) { e.Time++ }, func(e *api.Entry) { e.Major++ }, func(e *api.Entry) { e.Minor++ }, func(e *api.Entry) { e.Size++ }, func(e *api.Entry) { e.Pieces = nil }, func(e *api.Entry) { e.Pieces = []api.Piece{piece(2, "x")} },
		func(e *api.Entry) { e.Pieces = []api.Piece{piece(1, "y")} }, func(e *api.Entry) { e.Names = nil }, func(e *api.Entry) { e.Names = []string{"Yb"} },
	} {
		twin := e
		change(&twin)
		if Same(e, twin) || Same(twin, e) {
			t.Error(i)
		}
	}
}

func TestPad(t *testing.T) {
	for size, want := range map[int]int{0: 0, 1: 511, 511: 1, 512: 0, 513: 511, -1: 0, math.MinInt: 0, 1 << 40: 0, math.MaxInt: 1} {
		if p := Pad(size); p != want {
			t.Error(size, p)
		}
	}
}

func TestWhatIsHandedInStays(t *testing.T) {
	room := append(make([]byte, 0, 2000), "data"...)
	e := api.Entry{Kind: api.KFile, Name: "a", Size: 4, Pieces: []api.Piece{{B: room}}}
	b, _ := Encode(api.FPax, e)
	b[512] = 'z'
	if string(room[:8]) != "data\x00\x00\x00\x00" {
		t.Errorf("%q", room[:8])
	}
}
