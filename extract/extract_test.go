package extract

import (
	"math"
	"slices"
	"strings"
	"testing"

	"portmanteau/api"
	"portmanteau/pack"
	"portmanteau/same"
	"portmanteau/tree"
	"portmanteau/walk"
)

func file(name, data string) api.Entry {
	e := api.Entry{Kind: api.KFile, Name: name, Size: len(data)}
	if data != "" {
		e.Pieces = []api.Piece{{B: []byte(data)}}
	}
	return e
}

func dir(name string) api.Entry        { return api.Entry{Kind: api.KDir, Name: name} }
func hard(name, link string) api.Entry { return api.Entry{Kind: api.KHard, Name: name, Link: link} }
func sym(name, link string) api.Entry  { return api.Entry{Kind: api.KSym, Name: name, Link: link} }

func paths(f *tree.FS, dir int) string {
	var l []string
	for _, s := range walk.All(f, dir) {
		l = append(l, s.Path)
	}
	return strings.Join(l, " ")
}

// plant has d (2), d/f (3), d/e (4, an empty directory), l (5, a link to d), g (6), h (3 again).
func plant(t *testing.T) *tree.FS {
	t.Helper()
	f := tree.New(100)
	n, e := All(f, 1, dir("d"), file("d/f", "abc"), dir("d/e"), sym("l", "d"), file("g", "g"), hard("h", "d/f"))
	if n != 6 || e != api.OK || paths(f, 1) != "d d/e d/f g h l" {
		t.Fatal(n, e, paths(f, 1))
	}
	return f
}

func stat(t *testing.T, f *tree.FS, path string) api.Node {
	t.Helper()
	ino, e := walk.Down(f, 1, strings.Split(path, "/")...)
	if e != api.OK {
		t.Fatal(path, e)
	}
	n, _ := f.Stat(ino)
	return n
}

func TestErrors(t *testing.T) {
	long := strings.Repeat("n", 256)
	for i, c := range []struct {
		dir  int
		e    api.Entry
		want api.Errno
	}{
		{1, api.Entry{}, api.ErrArg}, {99, api.Entry{Kind: api.KFile, Name: "../a", Mode: -1}, api.ErrArg}, {1, api.Entry{Kind: api.KDir, Name: "a/"}, api.ErrArg},
		{1, file("../a", ""), api.ErrPath}, {1, file("/a", ""), api.ErrPath}, {1, dir("/"), api.ErrArg}, {1, dir("/x"), api.ErrPath}, {1, file("x/../a", ""), api.ErrPath}, {1, file(long, ""), api.ErrPath}, {99, file("..", ""), api.ErrPath},
		{1, hard("a", "/d/f"), api.ErrPath}, {1, hard("a", "../f"), api.ErrPath}, {1, hard("a", "."), api.ErrPath}, {1, hard("a", "./"), api.ErrPath}, {1, hard("..", "d/f"), api.ErrPath}, {1, hard(".", "d/f"), api.ErrPath},
		{1, file(".", ""), api.ErrPath}, {99, file("./.", ""), api.ErrPath}, {1, sym(".", "x"), api.ErrPath}, {1, api.Entry{Kind: api.KFifo, Name: "./"}, api.ErrPath},
		{99, file("a", ""), api.ErrNone}, {99, dir("a/b"), api.ErrNone}, {99, dir("."), api.ErrNone}, {99, hard("a", "b"), api.ErrNone}, {3, dir("."), api.ErrDir}, {3, file("a", ""), api.ErrDir}, {5, file("a", ""), api.ErrDir}, {5, dir("."), api.ErrDir},
		{1, file("g/a", ""), api.ErrDir}, {1, dir("g/a/b"), api.ErrDir}, {1, file("l/f", ""), api.ErrDir}, {1, dir("l/e"), api.ErrDir}, {1, hard("l/x", "g"), api.ErrDir}, {1, hard("g/x", "none"), api.ErrDir}, {1, sym("l/a/b", "x"), api.ErrDir},
		{1, hard("a", "none"), api.ErrNone}, {1, hard("a", "l/f"), api.ErrDir}, {1, hard("a", "g/f"), api.ErrDir}, {1, hard("a", "d"), api.ErrBusy}, {1, hard("d", "d"), api.ErrBusy}, {1, hard("d", "g"), api.ErrBusy}, {1, hard("d/e", "g"), api.ErrBusy}, {1, hard("g", "d/x"), api.ErrNone},
		{1, file("d", ""), api.ErrBusy}, {1, file("d/e", ""), api.ErrBusy}, {1, sym("d/e", "x"), api.ErrBusy}, {1, api.Entry{Kind: api.KChar, Name: "d"}, api.ErrBusy},
	} {
		f := plant(t)
		clock, text := f.Clock(), same.Text(f, 1)
		if e := One(f, c.dir, c.e); e != c.want || f.Clock() != clock || !slices.Equal(same.Text(f, 1), text) {
			t.Error(i, e, c.want, paths(f, 1))
		}
	}
}

func TestTheWayIsMade(t *testing.T) {
	f := tree.New(100)
	if e := One(f, 1, file("a/b/./c", "x")); e != api.OK || paths(f, 1) != "a a/b a/b/c" {
		t.Fatal(e, paths(f, 1))
	}
	// a, b and c were made, c was grown and written.
	for path, want := range map[string]api.Node{
		"a": {Kind: api.KDir, Mode: 0o755, Links: 1, Time: 2, Change: 2}, "a/b": {Kind: api.KDir, Mode: 0o755, Links: 1, Time: 3, Change: 3}, "a/b/c": {Kind: api.KFile, Size: 1, Links: 1, Change: 5},
	} {
		if n := stat(t, f, path); n != want {
			t.Error(path, n)
		}
	}
	if e := One(f, 1, hard("w/x/h", "none")); e != api.ErrNone || paths(f, 1) != "a a/b a/b/c w w/x" {
		t.Error("what was made on the way does not stay", e, paths(f, 1))
	}
	if e := One(f, 1, hard("v/h", "v")); e != api.ErrBusy {
		t.Error(e)
	}
}

func TestEachKindIsMade(t *testing.T) {
	base := api.Entry{Name: "x", Mode: 0o7777, User: 5, Group: 6, Time: -7}
	for _, at := range []string{"x", "g", "h", "l", "new/x"} {
		for kind := api.KFile; kind <= api.KDump; kind++ {
			f := plant(t)
			e := base
			e.Kind, e.Name = kind, at
			want := api.Node{Kind: kind, Mode: 0o7777, User: 5, Group: 6, Time: -7, Links: 1}
			switch kind {
			case api.KHard:
				continue
			case api.KSym:
				e.Link = "../target"
				want.Target = "../target"
			case api.KChar, api.KBlock:
				e.Major, e.Minor = 8, 9
				want.Major, want.Minor = 8, 9
			case api.KFile:
				e.Size, e.Pieces = 20, []api.Piece{{At: 3, B: []byte("abc")}, {At: 9, B: []byte("d")}}
				want.Size = 20
			case api.KDump:
				e.Names = []string{"Ya", "Dother"}
				want.Kind = api.KDir
			}
			if errno := One(f, 1, e); errno != api.OK {
				t.Error(at, kind, errno)
				continue
			}
			got := stat(t, f, at)
			got.Change = 0
			if got != want {
				t.Error(at, kind, got)
			}
			ino, _ := walk.Down(f, 1, strings.Split(at, "/")...)
			if kind == api.KFile && (len(f.Pieces(ino)) != 2 || string(f.Pieces(ino)[0].B) != "abc") {
				t.Error(at, f.Pieces(ino))
			}
			if at == "h" && stat(t, f, "d/f").Links != 1 {
				t.Error("the other name is not as it was")
			}
		}
	}
}

func TestDirectoriesThatAreThereStay(t *testing.T) {
	for _, kind := range []int{api.KDir, api.KDump} {
		f := plant(t)
		e := api.Entry{Kind: kind, Name: "d", Mode: 1, User: 2, Group: 3, Time: 4}
		if errno := One(f, 1, e); errno != api.OK || paths(f, 1) != "d d/e d/f g h l" {
			t.Fatal(errno, paths(f, 1))
		}
		if n := stat(t, f, "d"); n.Mode != 1 || n.User != 2 || n.Group != 3 || n.Time != 4 {
			t.Error(n)
		}
		for _, name := range []string{".", "./."} {
			e.Name, e.Mode = name, e.Mode+1
			if errno := One(f, 1, e); errno != api.OK {
				t.Error(errno)
			}
			if n, _ := f.Stat(1); n.Mode != e.Mode || n.Time != 4 {
				t.Error(n)
			}
		}
		e.Name = "l"
		if errno := One(f, 1, e); errno != api.OK || stat(t, f, "l").Kind != api.KDir || paths(f, 1) != "d d/e d/f g h l" {
			t.Error("a link in the way", errno)
		}
	}
}

func TestHardLinks(t *testing.T) {
	f := plant(t)
	clock := f.Clock()
	for _, e := range []api.Entry{hard("h", "d/f"), hard("d/f", "./h"), hard("g", "g")} {
		if errno := One(f, 1, e); errno != api.OK || f.Clock() != clock {
			t.Error("it is there by that name already", errno)
		}
	}
	if errno := One(f, 1, hard("g", "h")); errno != api.OK || stat(t, f, "g").Links != 3 || f.Used() != 3 {
		t.Error(errno, stat(t, f, "g"), f.Used())
	}
	if errno := One(f, 1, hard("k", "l")); errno != api.OK || stat(t, f, "k").Kind != api.KSym || stat(t, f, "k").Links != 2 {
		t.Error("a link has another name", errno)
	}
	x := hard("d/m", "g")
	x.Mode, x.User, x.Time = 7, 8, 9
	if errno := One(f, 1, x); errno != api.OK || stat(t, f, "g").Mode != 0 || stat(t, f, "g").Time != 0 {
		t.Error("a name sets nothing", errno)
	}
}

func TestTheTreesOtherErrors(t *testing.T) {
	f := plant(t)
	if e := One(f, 1, sym("g", strings.Repeat("t", 1025))); e != api.ErrArg || paths(f, 1) != "d d/e d/f h l" {
		t.Error("what was removed does not stay so", e, paths(f, 1))
	}
	f = tree.New(6)
	e := api.Entry{Kind: api.KFile, Name: "a", Size: 30, Pieces: []api.Piece{{At: 1, B: []byte("abc")}, {At: 10, B: []byte("defgh")}, {At: 20, B: []byte("i")}}}
	if errno := One(f, 1, e); errno != api.ErrQuota || f.Used() != 6 {
		t.Error(errno, f.Used())
	}
	if b, _ := f.Read(2, 0, 99); len(b) != 30 || string(b[1:4]) != "abc" || string(b[10:15]) != "def\x00\x00" {
		t.Errorf("%q", b)
	}
	f = tree.New(0)
	for i := range 999 {
		f.Make(1, strings.Repeat("n", i%200+1)+string(rune('a'+i/200)), api.Node{Kind: api.KFile})
	}
	if errno := One(f, 1, file("new", "")); errno != api.ErrFull {
		t.Error(errno)
	}
	if errno := One(f, 1, dir("w/x")); errno != api.ErrFull {
		t.Error(errno)
	}
	if errno := One(f, 1, file("na", "")); errno != api.OK {
		t.Error("in the place of another", errno)
	}
}

func TestAllSetsDirectoriesAtTheEnd(t *testing.T) {
	f := tree.New(100)
	d := api.Entry{Kind: api.KDir, Name: "d", Mode: 1, User: 2, Group: 3, Time: 4}
	again := api.Entry{Kind: api.KDump, Name: "d", Mode: 5, User: 6, Group: 7, Time: 8}
	top := api.Entry{Kind: api.KDir, Name: ".", Time: 77}
	gone := dir("x")
	n, e := All(f, 1, top, d, file("d/f", "abc"), gone, again, file("d/g", ""), file("w/v", ""), api.Entry{Kind: api.KDir, Name: "w", Time: 9}, file("w/u", ""))
	if n != 9 || e != api.OK {
		t.Fatal(n, e)
	}
	for path, want := range map[string][4]int{"d": {5, 6, 7, 8}, "w": {0, 0, 0, 9}, "x": {0, 0, 0, 0}} {
		if n := stat(t, f, path); [4]int{n.Mode, n.User, n.Group, n.Time} != want {
			t.Error(path, n)
		}
	}
	if n, _ := f.Stat(1); n.Time != 77 {
		t.Error(n)
	}
	// At the end they are set by rising node: the root, d, x, w.
	if a, b, c, d := rootChange(f), stat(t, f, "d").Change, stat(t, f, "x").Change, stat(t, f, "w").Change; a+1 != b || b+1 != c || c+1 != d || d != f.Clock() {
		t.Error(a, b, c, d, f.Clock())
	}
}

func rootChange(f *tree.FS) int {
	n, _ := f.Stat(1)
	return n.Change
}

func TestAllUpToTheFirstError(t *testing.T) {
	f := tree.New(100)
	d := api.Entry{Kind: api.KDir, Name: "d", Time: 4}
	never := api.Entry{Kind: api.KDir, Name: "never"}
	if n, e := All(f, 1, d, file("d/f", "abc"), file("d/../x", ""), never); n != 2 || e != api.ErrPath || paths(f, 1) != "d d/f" || stat(t, f, "d").Time != 4 {
		t.Error(n, e, paths(f, 1), stat(t, f, "d"))
	}
	if n, e := All(f, 1); n != 0 || e != api.OK {
		t.Error(n, e)
	}
	if n, e := All(f, 99, d); n != 0 || e != api.ErrNone {
		t.Error(n, e)
	}
	clock := f.Clock()
	if n, e := All(f, 1, api.Entry{}); n != 0 || e != api.ErrArg || f.Clock() != clock {
		t.Error(n, e)
	}
}

func TestInAnEmptyDirectoryTheTreeIsThereAgain(t *testing.T) {
	f := tree.New(1000)
	a, _ := f.Make(1, "a", api.Node{Kind: api.KDir, Mode: 0o700, Time: 5})
	b, _ := f.Make(a, "b", api.Node{Kind: api.KFile, Mode: 0o600, User: 7, Time: math.MinInt})
	f.Write(b, 5, []byte("abc"))
	f.Write(b, 50, []byte("def"))
	f.Grow(b, 1<<40)
	f.Link(1, "c", b)
	f.Make(a, "dev", api.Node{Kind: api.KChar, Major: 1, Minor: 2})
	f.Make(a, "s", api.Node{Kind: api.KSym, Target: "/"})
	f.Make(1, "p", api.Node{Kind: api.KFifo})
	f.Set(a, api.Node{Mode: 0o500, Time: 6})
	g := tree.New(1000)
	g.Make(1, "in", api.Node{Kind: api.KDir})
	l := pack.Entries(f, 1)
	if n, e := All(g, 2, l...); n != len(l) || e != api.OK || !same.Same(f, 1, g, 2) {
		t.Error(n, e, same.Text(g, 2), same.Text(f, 1))
	}
}

func TestOutsideNothingIsChanged(t *testing.T) {
	f := tree.New(1000)
	secret, _ := f.Make(1, "secret", api.Node{Kind: api.KFile, Mode: 0o600})
	f.Write(secret, 0, []byte("secret"))
	in, _ := f.Make(1, "in", api.Node{Kind: api.KDir})
	f.Make(in, "up", api.Node{Kind: api.KSym, Target: ".."})
	f.Make(in, "root", api.Node{Kind: api.KSym, Target: "/"})
	f.Link(in, "same", secret)
	before, _ := f.Stat(secret)
	top, _ := f.Stat(1)
	for _, name := range []string{"../secret", "/secret", "up/secret", "root/secret", "up/in/x", "x/../../secret", "up", "root", "../in", "same", "..", "secret"} {
		for kind := api.KFile; kind <= api.KDump; kind++ {
			e := api.Entry{Kind: kind, Name: name}
			if kind == api.KHard || kind == api.KSym {
				e.Link = "up/secret"
			}
			One(f, in, e)
			One(f, in, hard("h"+name, name))
		}
	}
	after, _ := f.Stat(secret)
	after.Links, after.Change = before.Links, before.Change // one of its names was below in
	now, _ := f.Stat(1)
	b, _ := f.Read(secret, 0, 99)
	if after != before || now != top || string(b) != "secret" || !slices.Equal(f.Names(1), []string{"in", "secret"}) {
		t.Error(after, before, now, top, f.Names(1))
	}
}
