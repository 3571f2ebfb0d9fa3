package read

import (
	"archive/tar"
	"bytes"
	"math"
	"slices"
	"strings"
	"testing"
	"time"

	"portmanteau/api"
	"portmanteau/entry"
	"portmanteau/head"
	"portmanteau/pax"
	"portmanteau/sparse"
)

func n(size int) string { return strings.Repeat("n", size) }

func piece(at int, s string) api.Piece { return api.Piece{At: at, B: []byte(s)} }

func file(name, data string) api.Entry {
	e := api.Entry{Kind: api.KFile, Name: name, Size: len(data)}
	if data != "" {
		e.Pieces = []api.Piece{piece(0, data)}
	}
	return e
}

func sameAll(a, b []api.Entry) bool { return slices.EqualFunc(a, b, entry.Same) }

// raw is a block and its data; what a field can't tell is written by the patches, each a place and bytes.
func raw(h api.Head, data string, patches ...any) []byte {
	if h.Size == 0 {
		h.Size = len(data)
	}
	b, e := head.Encode(h)
	if e != api.OK {
		panic(e)
	}
	for i := 0; i < len(patches); i += 2 {
		copy(b[patches[i].(int):], patches[i+1].(string))
	}
	sum := head.Sum(b)
	for i := 5; i >= 0; i-- {
		b[148+i] = '0' + byte(sum&7)
		sum >>= 3
	}
	return slices.Concat(b, []byte(data), make([]byte, entry.Pad(len(data))))
}

func records(l ...string) []byte {
	var all []api.KV
	for i := 0; i < len(l); i += 2 {
		all = append(all, api.KV{Key: l[i], Value: l[i+1]})
	}
	b, _ := pax.Encode(all...)
	return raw(api.Head{Type: 'x', Name: "pax"}, string(b))
}

func long(kind byte, s string) []byte {
	return raw(api.Head{Type: kind, Gnu: true}, s)
}

var end = make([]byte, 1024)

func cat(parts ...[]byte) []byte { return slices.Concat(parts...) }

type answer struct {
	b    []byte
	want []api.Entry
	at   int
	e    api.Errno
}

func check(t *testing.T, l []answer) {
	t.Helper()
	for i, c := range l {
		got, at, e := All(c.b)
		if !sameAll(got, c.want) || at != c.at || e != c.e {
			t.Errorf("%d: %d entries at %d: %v", i, len(got), at, e)
		}
		r := New(c.b)
		for _, want := range c.want {
			if next, ok, e := r.Next(); !ok || e != api.OK || !entry.Same(next, want) {
				t.Errorf("%d: %+v %v %v", i, next, ok, e)
			}
		}
		for range 3 {
			if next, ok, e := r.Next(); ok || e != c.e || !entry.Same(next, api.Entry{}) || r.At() != c.at {
				t.Errorf("%d: %+v %v %v at %d", i, next, ok, e, r.At())
			}
		}
	}
}

func TestTheEnd(t *testing.T) {
	a := raw(api.Head{Type: '0', Name: "a"}, "")
	l := []api.Entry{file("a", "")}
	one := end[:512]
	check(t, []answer{
		{end, nil, 0, api.OK}, {cat(end, end, end[:7]), nil, 0, api.OK}, {cat(a, end), l, 512, api.OK}, {cat(a, end, end), l, 512, api.OK}, {cat(a, a, end), slices.Concat(l, l), 1024, api.OK},
		{nil, nil, 0, api.ErrEnd}, {end[:511], nil, 0, api.ErrEnd}, {one, nil, 0, api.ErrEnd}, {end[:1023], nil, 0, api.ErrEnd}, {a, l, 512, api.ErrEnd}, {a[:511], nil, 0, api.ErrEnd}, {cat(a, one), l, 512, api.ErrEnd}, {cat(a, a[:5]), l, 512, api.ErrEnd}, {cat(one, a[:511]), nil, 0, api.ErrEnd},
		{cat(one, a), nil, 0, api.ErrForm}, {cat(a, one, a, end), l, 512, api.ErrForm}, {cat(end, a), nil, 0, api.ErrForm}, {cat(end, []byte{0, 1}), nil, 0, api.ErrForm}, {cat(a, end, end, []byte{1}), l, 512, api.ErrForm},
	})
}

func TestBlocks(t *testing.T) {
	a := raw(api.Head{Type: '0', Name: "a"}, "data")
	l := []api.Entry{file("a", "data")}
	patched := func(at int) []byte { b := slices.Clone(a); b[at]++; return b }
	wide := func(size int) []byte { return raw(api.Head{Type: '0', Name: "a", Gnu: true, Size: size}, "") }
	check(t, []answer{
		{cat(a, end), l, 1024, api.OK}, {cat(a, a[:1023]), l, 1024, api.ErrEnd}, {cat(a, a[:513]), l, 1024, api.ErrEnd}, {cat(a, a[:512]), l, 1024, api.ErrEnd},
		{patched(0), nil, 0, api.ErrSum}, {patched(257), nil, 0, api.ErrHead}, {cat(a, patched(3), end), l, 1024, api.ErrSum}, {raw(api.Head{Type: '0', Name: "a"}, "", 108, "x"), nil, 0, api.ErrHead},
		{cat(patched(516), end), nil, 0, api.ErrForm}, {cat(patched(1023), end), nil, 0, api.ErrForm}, {patched(1023)[:1023], nil, 0, api.ErrEnd},
		{wide(1 << 40), nil, 0, api.ErrEnd}, {wide(1<<40 + 1), nil, 0, api.ErrHead}, {wide(math.MaxInt), nil, 0, api.ErrHead}, {raw(api.Head{Type: '7', Name: "a", Gnu: true, Size: 1<<40 + 1}, ""), nil, 0, api.ErrHead},
	})
	for kind := range 256 {
		want := api.ErrForm
		switch {
		case kind == 0 || strings.ContainsRune("01234567x", rune(kind)) && kind != '7' && kind != 'x':
			want = api.OK
		case kind == 'x' || kind == 'L' || kind == 'K' || kind == 'D':
			continue
		}
		if _, _, e := All(cat(raw(api.Head{Type: byte(kind), Name: "a", Link: "b"}, ""), end)); e != want {
			t.Error(kind, e)
		}
	}
	// A type that is none is told behind its data.
	check(t, []answer{{raw(api.Head{Type: 'g', Name: "a"}, "data")[:600], nil, 0, api.ErrEnd}, {raw(api.Head{Type: 'g', Name: "a"}, "data"), nil, 0, api.ErrForm}})
}

func TestWhatIsToldAhead(t *testing.T) {
	a := raw(api.Head{Type: '2', Name: "a", Link: "l", Prefix: "p", User: 5, Group: 6, Time: 7}, "")
	path, name, link := records("path", "b/c", "linkpath", "m", "uid", "8", "gid", "9", "mtime", "1.5"), long('L', "long\x00"), long('K', "other\x00junk")
	sym := func(name, link string, user, group, time int) []api.Entry {
		return []api.Entry{{Kind: api.KSym, Name: name, Link: link, User: user, Group: group, Time: time}}
	}
	bad := raw(api.Head{Type: 'x'}, "x")
	check(t, []answer{
		{cat(a, end), sym("p/a", "l", 5, 6, 7e9), 512, api.OK}, {cat(path, a, end), sym("b/c", "m", 8, 9, 1500000000), 1536, api.OK}, {cat(name, a, end), sym("long", "l", 5, 6, 7e9), 1536, api.OK}, {cat(link, a, end), sym("p/a", "other", 5, 6, 7e9), 1536, api.OK},
		{cat(link, name, path, a, end), sym("b/c", "m", 8, 9, 1500000000), 3584, api.OK}, {cat(path, link, name, a, end), sym("b/c", "m", 8, 9, 1500000000), 3584, api.OK},
		{cat(name, a, a, end), slices.Concat(sym("long", "l", 5, 6, 7e9), sym("p/a", "l", 5, 6, 7e9)), 2048, api.OK},
		{cat(records("path", "b", "path", ""), a, end), sym("p/a", "l", 5, 6, 7e9), 1536, api.OK}, {cat(records("path", "b", "path", "c", "other", "x"), a, end), sym("c", "l", 5, 6, 7e9), 1536, api.OK}, {cat(records("GNU.sparse.name", "s", "path", "c"), a, end), sym("s", "l", 5, 6, 7e9), 1536, api.OK}, {cat(raw(api.Head{Type: 'x'}, ""), a, end), sym("p/a", "l", 5, 6, 7e9), 1024, api.OK},
		{cat(name, name, a, end), nil, 0, api.ErrForm}, {cat(path, path, a, end), nil, 0, api.ErrForm}, {cat(link, name, link, a, end), nil, 0, api.ErrForm}, {cat(a, path, bad, a, end), sym("p/a", "l", 5, 6, 7e9), 512, api.ErrForm}, {cat(path, bad[:1023]), nil, 0, api.ErrEnd}, {cat(path, bad[:512]), nil, 0, api.ErrEnd},
		{cat(bad, a, end), nil, 0, api.ErrPax}, {cat(path, end), nil, 0, api.ErrForm}, {cat(a, name, end), sym("p/a", "l", 5, 6, 7e9), 512, api.ErrForm}, {cat(link, end[:512]), nil, 0, api.ErrEnd}, {cat(link, end[:512], a), nil, 0, api.ErrForm}, {path, nil, 0, api.ErrEnd}, {cat(path, name), nil, 0, api.ErrEnd},
		{cat(long('L', "no end"), a, end), nil, 0, api.ErrForm}, {cat(long('K', ""), a, end), nil, 0, api.ErrForm}, {cat(long('L', "\x00"), a, end), nil, 0, api.ErrForm}, {cat(long('L', n(4096)+"\x00x"), a, end), sym(n(4096), "l", 5, 6, 7e9), 5632, api.OK}, {cat(long('L', "a\x00"+n(4097)), a, end), nil, 0, api.ErrForm}, {cat(long('K', n(4097)+"\x00"), a, end), nil, 0, api.ErrForm},
		{cat(long('L', "d///\x00"), raw(api.Head{Type: '5'}, ""), end), []api.Entry{{Kind: api.KDir, Name: "d"}}, 1536, api.OK},
		{cat(raw(api.Head{Type: 'x'}, strings.Repeat("6 a=b\n", 10923)), a, end), nil, 0, api.ErrPax},
	})
}

func TestNumbersToldAhead(t *testing.T) {
	a := raw(api.Head{Type: '6', Name: "a", Gnu: true, User: -1, Group: 1 << 31, Time: math.MaxInt / second}, "")
	f := raw(api.Head{Type: '0', Name: "a"}, "data")
	late := raw(api.Head{Type: '6', Name: "a", Gnu: true, Time: math.MaxInt/second + 1}, "")
	early := raw(api.Head{Type: '6', Name: "a", Gnu: true, Time: math.MinInt/second - 1}, "")
	earliest := raw(api.Head{Type: '6', Name: "a", Gnu: true, Time: math.MinInt / second}, "")
	fifo := func(user, group, time int) []api.Entry {
		return []api.Entry{{Kind: api.KFifo, Name: "a", User: user, Group: group, Time: time}}
	}
	var l []answer
	l = append(l, answer{cat(records("uid", "0", "gid", "2147483647"), a, end), fifo(0, 1<<31-1, math.MaxInt/second*second), 1536, api.OK}, answer{cat(earliest, end), fifo(0, 0, math.MinInt/second*second), 512, api.OK}, answer{cat(records("mtime", "-1"), late, end), fifo(0, 0, -1e9), 1536, api.OK})
	for _, s := range []string{"x", "01", "-", "+1", "1.0", "9223372036854775808", " 1"} {
		for _, key := range []string{"uid", "gid", "size"} {
			l = append(l, answer{cat(records(key, s), f, end), nil, 0, api.ErrPax})
		}
	}
	for _, s := range []string{"x", "1.", ".5", "1e9", "9223372037"} {
		l = append(l, answer{cat(records("mtime", s), f, end), nil, 0, api.ErrPax})
	}
	l = append(l, []answer{
		{cat(a, end), nil, 0, api.ErrForm}, {cat(records("uid", "1"), a, end), nil, 0, api.ErrForm}, {cat(records("uid", "-1", "gid", "1"), a, end), nil, 0, api.ErrForm}, {cat(late, end), nil, 0, api.ErrHead}, {cat(early, end), nil, 0, api.ErrHead},
		{cat(records("uid", "x", "mtime", "x"), late, end), nil, 0, api.ErrPax}, {cat(records("size", "-1"), f, end), nil, 0, api.ErrPax}, {cat(records("size", "1099511627777"), f, end), nil, 0, api.ErrHead}, {cat(records("size", "1099511627776"), f, end), nil, 0, api.ErrEnd}, {cat(records("size", "3", "uid", "x"), f, end), nil, 0, api.ErrForm},
		{cat(records("size", "4"), raw(api.Head{Type: '0', Name: "a", Gnu: true, Size: 1<<40 + 1}, "data"), end), []api.Entry{file("a", "data")}, 2048, api.OK}, {cat(records("size", "512"), f, end), []api.Entry{file("a", "data"+strings.Repeat("\x00", 508))}, 2048, api.OK}, {cat(records("size", "0"), f, end), []api.Entry{file("a", "")}, 1536, api.ErrHead},
		{cat(records("size", "4"), long('L', "b\x00"), f, end), []api.Entry{file("b", "data")}, 3072, api.OK}, {cat(records("size", "x"), long('L', "b\x00"), f, end), nil, 0, api.ErrPax}, {cat(records("size", "4", "uid", "x"), f[:600]), nil, 0, api.ErrEnd},
	}...)
	check(t, l)
}

func TestKinds(t *testing.T) {
	h := api.Head{Name: "a/", Link: "l", Mode: 0o644, User: 1, Group: 2, Time: 3, Major: 4, Minor: 5}
	with := func(kind byte) api.Head { x := h; x.Type = kind; return x }
	e := api.Entry{Name: "a/", Mode: 0o644, User: 1, Group: 2, Time: 3e9}
	of := func(kind int, change func(*api.Entry)) []api.Entry {
		x := e
		x.Kind = kind
		change(&x)
		return []api.Entry{x}
	}
	none := func(*api.Entry) {}
	check(t, []answer{
		{cat(raw(with(0), ""), end), of(api.KFile, none), 512, api.OK}, {cat(raw(with('0'), ""), end), of(api.KFile, none), 512, api.OK},
		{cat(raw(with('1'), ""), end), of(api.KHard, func(e *api.Entry) { e.Link = "l" }), 512, api.OK}, {cat(raw(with('2'), ""), end), of(api.KSym, func(e *api.Entry) { e.Link = "l" }), 512, api.OK},
		{cat(raw(with('3'), ""), end), of(api.KChar, func(e *api.Entry) { e.Major, e.Minor = 4, 5 }), 512, api.OK}, {cat(raw(with('4'), ""), end), of(api.KBlock, func(e *api.Entry) { e.Major, e.Minor = 4, 5 }), 512, api.OK},
		{cat(raw(with('5'), ""), end), of(api.KDir, func(e *api.Entry) { e.Name = "a" }), 512, api.OK}, {cat(raw(with('6'), ""), end), of(api.KFifo, none), 512, api.OK},
		{cat(raw(with('D'), "Yx\x00Nz\x00\x00"), end), of(api.KDump, func(e *api.Entry) { e.Name, e.Names = "a", []string{"Yx", "Nz"} }), 1024, api.OK}, {cat(raw(with('D'), "\x00"), end), of(api.KDump, func(e *api.Entry) { e.Name = "a" }), 1024, api.OK},
	})
	var l []answer
	for _, kind := range []byte("123456") {
		l = append(l, answer{cat(raw(with(kind), "d"), end), nil, 0, api.ErrForm}, answer{cat(raw(with(kind), "data"), end), nil, 0, api.ErrForm}, answer{raw(with(kind), "data")[:700], nil, 0, api.ErrEnd})
	}
	l = append(l, answer{cat(raw(api.Head{Type: '0', Name: "a"}, "d"), end), []api.Entry{file("a", "d")}, 1024, api.OK})
	for _, data := range []string{"", "Yx", "Yx\x00", "\x00\x00", "Yx\x00\x00\x00", "x\x00\x00", "Qx\x00\x00", "Y\x00\x00", "Y..\x00\x00", "Ya/b\x00\x00", "\x00Yx\x00\x00", "Yx\x00\x00Yx\x00\x00", strings.Repeat("Yx\x00", 1001) + "\x00"} {
		l = append(l, answer{cat(raw(with('D'), data), end), nil, 0, api.ErrForm})
	}
	for _, x := range []api.Head{{Type: '0'}, {Type: '5', Name: "///"}, {Type: '1', Name: "a"}, {Type: '2', Name: "a"}, {Type: '0', Name: "a", Mode: 0o10000}, {Type: '3', Name: "a", Major: 1 << 20}, {Type: '6', Name: "a", Gnu: true, Mode: -1}, {Type: '4', Name: "a", Gnu: true, Minor: -1}} {
		l = append(l, answer{cat(raw(x, ""), end), nil, 0, api.ErrForm})
	}
	l = append(l, answer{cat(raw(api.Head{Type: '6', Name: "a", Gnu: true, Major: -1, Minor: 1 << 40}, ""), end), []api.Entry{{Kind: api.KFifo, Name: "a"}}, 512, api.OK})
	check(t, l)
}

func TestHoles(t *testing.T) {
	pieces := []api.Piece{piece(3, "abc"), piece(9, "z")}
	data, _ := sparse.Encode(20, pieces)
	f := raw(api.Head{Type: '0', Name: "a"}, string(data))
	want := []api.Entry{{Kind: api.KFile, Name: "a", Size: 20, Pieces: pieces}}
	plain := []api.Entry{file("a", string(data))}
	rec := func(major, minor, size string) []byte {
		return records("GNU.sparse.major", major, "GNU.sparse.minor", minor, "GNU.sparse.realsize", size)
	}
	check(t, []answer{
		{cat(rec("1", "0", "20"), f, end), want, 1024 + len(f), api.OK}, {cat(rec("1", "1", "20"), f, end), plain, 1024 + len(f), api.OK}, {cat(rec("0", "0", "20"), f, end), plain, 1024 + len(f), api.OK}, {cat(rec("01", "0", "20"), f, end), plain, 1024 + len(f), api.OK}, {cat(rec("1", "", "x"), f, end), plain, 1024 + len(f), api.OK},
		{cat(rec("1", "0", "x"), f, end), nil, 0, api.ErrPax}, {cat(rec("1", "0", ""), f, end), nil, 0, api.ErrPax}, {cat(rec("1", "0", "21"), f, end), nil, 0, api.ErrMap}, {cat(rec("1", "0", "-1"), f, end), nil, 0, api.ErrMap}, {cat(rec("1", "0", "20"), raw(api.Head{Type: '0', Name: "a"}, "data"), end), nil, 0, api.ErrMap},
		{cat(rec("1", "0", "20"), raw(api.Head{Type: '0', Name: "", Mode: 0o10000}, "data"), end), nil, 0, api.ErrMap}, {cat(rec("1", "0", "20"), raw(api.Head{Type: '6', Name: "a"}, ""), end), []api.Entry{{Kind: api.KFifo, Name: "a"}}, 1536, api.OK},
	})
}

func entries() []api.Entry {
	return []api.Entry{
		file("a", "data"), file(n(200), n(700)), file("p/"+n(100), ""), {Kind: api.KDir, Name: "d/" + n(180), Mode: 0o755, Time: 1500000000}, {Kind: api.KSym, Name: "s", Link: n(300), User: 1 << 30}, {Kind: api.KHard, Name: n(120), Link: n(110)},
		{Kind: api.KChar, Name: "c", Major: 7, Minor: 8}, {Kind: api.KBlock, Name: "b", Minor: 1<<20 - 1}, {Kind: api.KFifo, Name: "f", Time: math.MinInt, Group: 1<<31 - 1}, {Kind: api.KDump, Name: ".", Names: []string{"Ya", "Dd"}, Mode: 0o7777}, {Kind: api.KDump, Name: n(4096)},
		{Kind: api.KFile, Name: "h", Size: 5000, Pieces: []api.Piece{piece(100, "abc"), piece(4999, "z")}}, {Kind: api.KFile, Name: n(150), Size: 1 << 40, Time: 1},
	}
}

func TestWhatIsToldIsRead(t *testing.T) {
	var all []byte
	for _, e := range entries() {
		b, errno := entry.Encode(api.FPax, e)
		if errno != api.OK {
			t.Fatal(e.Name, errno)
		}
		all = append(all, b...)
	}
	check(t, []answer{{cat(all, end), entries(), len(all), api.OK}})
	for _, e := range entries()[:12] {
		b, errno := entry.Encode(api.FGnu, e)
		if errno != api.OK {
			t.Fatal(e.Name, errno)
		}
		e.Time = int(math.Floor(float64(e.Time)/second)) * second
		if e.Kind == api.KFile && e.Size > 0 {
			dense, _ := sparse.Dense(e.Size, e.Pieces)
			e.Pieces = []api.Piece{{B: dense}}
		}
		if e.Kind == api.KFifo {
			// Its whole seconds are no int as nanoseconds any more.
			check(t, []answer{{cat(b, end), nil, 0, api.ErrHead}})
			continue
		}
		check(t, []answer{{cat(b, end), []api.Entry{e}, len(b), api.OK}})
	}
}

func TestHostileBytes(t *testing.T) {
	var all []byte
	for _, e := range entries() {
		b, _ := entry.Encode(api.FPax, e)
		all = append(all, b...)
	}
	all = append(all, end...)
	x := uint32(5)
	for range 4000 {
		b := slices.Clone(all)
		for range 1 + x>>30 {
			x = x*1664525 + 1013904223
			b[int(x>>4)%len(b)] ^= byte(x>>24) | 1
		}
		if x>>12%4 == 0 {
			b = b[:int(x>>3)%len(b)]
		}
		l, at, e := All(b)
		for _, read := range l {
			if !entry.Ok(read) {
				t.Fatal("an entry that is none", read)
			}
		}
		if at > len(b) || at%512 != 0 || e == api.OK && at+1024 > len(b) {
			t.Fatal(at, len(b), e)
		}
		// What was read is the beginning of a row: it is read again where it is ended there.
		again, _, g := All(cat(b[:at], end))
		if g != api.OK || !sameAll(again, l) {
			t.Fatal(len(l), len(again), g)
		}
	}
}

func TestTheLibrarysArchives(t *testing.T) {
	for _, form := range []tar.Format{tar.FormatUSTAR, tar.FormatPAX, tar.FormatGNU} {
		var b bytes.Buffer
		w := tar.NewWriter(&b)
		stamp := time.Unix(1700000000, 0)
		w.WriteHeader(&tar.Header{Typeflag: tar.TypeDir, Name: "d/", Mode: 0o755, ModTime: stamp, Format: form})
		w.WriteHeader(&tar.Header{Typeflag: tar.TypeReg, Name: "d/f", Size: 4, Mode: 0o644, Uid: 1000, Gid: 1001, ModTime: stamp, Format: form})
		w.Write([]byte("data"))
		w.WriteHeader(&tar.Header{Typeflag: tar.TypeSymlink, Name: "l", Linkname: "d/f", ModTime: stamp, Format: form})
		w.Close()
		want := []api.Entry{{Kind: api.KDir, Name: "d", Mode: 0o755, Time: 17e17}, file("d/f", "data"), {Kind: api.KSym, Name: "l", Link: "d/f", Time: 17e17}}
		want[1].Mode, want[1].User, want[1].Group, want[1].Time = 0o644, 1000, 1001, 17e17
		if l, _, e := All(b.Bytes()); e != api.OK || !sameAll(l, want) {
			t.Error(form, l, e)
		}
	}
}

func TestOwnMemory(t *testing.T) {
	b := cat(raw(api.Head{Type: '0', Name: "a"}, "data"), raw(api.Head{Type: '0', Name: "b"}, "data"), end)
	r := New(b)
	b[512], b[1024] = 'z', 'z'
	first, _, _ := r.Next()
	data := first.Pieces[0].B
	_ = append(data, n(600)...)
	data[0] = 'y'
	if second, ok, e := r.Next(); !ok || e != api.OK || !entry.Same(second, file("b", "data")) {
		t.Error(second, ok, e)
	}
}
