package pack

import (
	"bytes"
	"slices"
	"strings"
	"testing"

	"portmanteau/api"
	"portmanteau/entry"
	"portmanteau/read"
	"portmanteau/tree"
	"portmanteau/walk"
	"portmanteau/write"
)

func plant() *tree.FS {
	f := tree.New(1 << 20)
	f.Make(1, "d", api.Node{Kind: api.KDir, Mode: 1, User: 2, Group: 3, Time: 4})  // 2
	f.Make(2, "f", api.Node{Kind: api.KFile, Mode: 5, User: 6, Group: 7, Time: 8}) // 3
	f.Make(1, "l", api.Node{Kind: api.KSym, Target: "d/f", Mode: 0o777})           // 4
	f.Make(1, "c", api.Node{Kind: api.KChar, Major: 9, Minor: 10})                 // 5
	f.Make(1, "b", api.Node{Kind: api.KBlock, Major: 11, Minor: 12})               // 6
	f.Make(1, "p", api.Node{Kind: api.KFifo, Time: -13})                           // 7
	f.Make(1, "e", api.Node{Kind: api.KFile})                                      // 8
	f.Write(3, 2, []byte("xy"))
	f.Write(3, 7, []byte("z"))
	f.Grow(3, 9)
	f.Link(1, "a", 3)
	f.Link(1, "z", 4)
	f.Set(2, api.Node{Mode: 1, User: 2, Group: 3, Time: 4})
	return f
}

func want() []api.Entry {
	pieces := []api.Piece{{At: 2, B: []byte("xy")}, {At: 7, B: []byte("z")}}
	return []api.Entry{
		{Kind: api.KFile, Name: "a", Mode: 5, User: 6, Group: 7, Time: 8, Size: 9, Pieces: pieces},
		{Kind: api.KBlock, Name: "b", Major: 11, Minor: 12}, {Kind: api.KChar, Name: "c", Major: 9, Minor: 10},
		{Kind: api.KDir, Name: "d", Mode: 1, User: 2, Group: 3, Time: 4}, {Kind: api.KHard, Name: "d/f", Link: "a", Mode: 5, User: 6, Group: 7, Time: 8},
		{Kind: api.KFile, Name: "e"}, {Kind: api.KSym, Name: "l", Link: "d/f", Mode: 0o777}, {Kind: api.KFifo, Name: "p", Time: -13}, {Kind: api.KHard, Name: "z", Link: "l", Mode: 0o777},
	}
}

func TestEntries(t *testing.T) {
	f := plant()
	if l := Entries(f, 1); !slices.EqualFunc(l, want(), entry.Same) {
		t.Errorf("%+v", l)
	}
	below := want()[0]
	below.Name = "f"
	if l := Entries(f, 2); !slices.EqualFunc(l, []api.Entry{below}, entry.Same) {
		t.Errorf("%+v", l)
	}
	for _, dir := range []int{3, 4, 99} {
		if l := Entries(f, dir); len(l) != 0 {
			t.Error(dir, l)
		}
	}
}

func TestEntry(t *testing.T) {
	f := plant()
	for i, x := range want() {
		ino, _ := walk.Down(f, 1, strings.Split(x.Name, "/")...)
		if x.Kind == api.KHard {
			continue
		}
		x.Name = "any path/at all"
		if got, ok := Entry(f, ino, x.Name); !ok || !entry.Same(got, x) {
			t.Errorf("%d: %+v", i, got)
		}
	}
	if x, ok := Entry(f, 1, "."); !ok || x.Kind != api.KDir || x.Name != "." || x.Mode != 0o755 {
		t.Error(x, ok)
	}
	for _, ino := range []int{0, 99, -1} {
		if x, ok := Entry(f, ino, "a"); ok || !entry.Same(x, api.Entry{}) {
			t.Error(ino, x)
		}
	}
}

func TestTar(t *testing.T) {
	f := plant()
	for _, factor := range []int{1, 20} {
		b, name, e := Tar(f, 1, api.FPax, factor)
		told, _, _ := write.All(api.FPax, factor, want()...)
		if e != api.OK || name != "" || !bytes.Equal(b, told) {
			t.Error(factor, name, e)
		}
		if l, _, e := read.All(b); e != api.OK || !slices.EqualFunc(l, want(), entry.Same) {
			t.Error(factor, e)
		}
	}
	if b, name, e := Tar(f, 1, api.FUstar, 1); b != nil || name != "p" || e != api.ErrField {
		t.Error(name, e)
	}
	if b, name, e := Tar(f, 1, 7, 1); b != nil || name != "a" || e != api.ErrArg {
		t.Error(name, e)
	}
	if b, name, e := Tar(f, 99, 7, 1); len(b) != 1024 || name != "" || e != api.OK {
		t.Error(len(b), name, e)
	}
}

func TestPathsThatAreTooLong(t *testing.T) {
	f := tree.New(0)
	dir := 1
	for range 17 {
		dir, _ = f.Make(dir, strings.Repeat("n", 255), api.Node{Kind: api.KDir})
	}
	if b, name, e := Tar(f, 1, api.FPax, 1); b != nil || e != api.ErrArg || len(name) != 17*256-1 {
		t.Error(len(name), e)
	}
}

func TestOwnMemory(t *testing.T) {
	f := plant()
	l := Entries(f, 1)
	l[0].Pieces[0].B[0] = '!'
	_ = append(l[0].Pieces[0].B, '!')
	if !slices.EqualFunc(Entries(f, 1), want(), entry.Same) {
		t.Error("what was answered is the tree's")
	}
}
