package check

import (
	"reflect"
	"slices"
	"strings"
	"testing"
	"unsafe"

	"portmanteau/api"
	"portmanteau/bag"
	"portmanteau/extract"
	"portmanteau/pack"
	"portmanteau/same"
	"portmanteau/tree"
	"portmanteau/walk"
	"portmanteau/write"
)

// plant has in (2), in/f (3), out (4), out/g (5), out/l (6, a link), out/h (3 again).
func plant() *tree.FS {
	f := tree.New(1000)
	f.Make(1, "in", api.Node{Kind: api.KDir})
	f.Make(2, "f", api.Node{Kind: api.KFile})
	f.Make(1, "out", api.Node{Kind: api.KDir})
	f.Make(4, "g", api.Node{Kind: api.KFile})
	f.Make(4, "l", api.Node{Kind: api.KSym, Target: "../in"})
	f.Link(4, "h", 3)
	f.Write(5, 3, []byte("abc"))
	f.Write(3, 0, []byte("xyz"))
	return f
}

func TestTree(t *testing.T) {
	if !Tree(tree.New(0)) {
		t.Error("of a root alone")
	}
	f := plant()
	for i, change := range []func(){
		func() {}, func() { f.Write(5, 100, []byte("more")) }, func() { f.Grow(5, 4) }, func() { f.Move(1, "in", 4, "in") }, func() { f.Remove(4, "h") }, func() { f.Make(2, "x", api.Node{Kind: api.KDir}) }, func() { walk.Drop(f, 1, "out") }, func() { f.Make(1, "x", api.Node{Kind: api.KFifo}) },
	} {
		change()
		if !Tree(f) || !Tree(f.Copy()) {
			t.Error(i)
		}
	}
}

// field is a hidden field, so that a tree can be broken.
func field(v reflect.Value, names ...string) reflect.Value {
	for _, name := range names {
		v = v.FieldByName(name)
	}
	return reflect.NewAt(v.Type(), unsafe.Pointer(v.UnsafeAddr())).Elem()
}

func TestBrokenTrees(t *testing.T) {
	node := func(f *tree.FS, ino int) reflect.Value {
		return field(reflect.ValueOf(f).Elem(), "nodes").MapIndex(reflect.ValueOf(ino)).Elem()
	}
	for i, breaks := range []func(*tree.FS){
		func(f *tree.FS) { field(reflect.ValueOf(f).Elem(), "used").SetInt(5) },
		func(f *tree.FS) { field(node(f, 3), "Node", "Links").SetInt(1) },
		func(f *tree.FS) { field(node(f, 3), "Node", "Links").SetInt(3) },
		func(f *tree.FS) { field(node(f, 2), "Node", "Links").SetInt(2) },
		func(f *tree.FS) { field(node(f, 4), "names").SetMapIndex(reflect.ValueOf("l"), reflect.Value{}) },
		func(f *tree.FS) {
			field(node(f, 4), "names").SetMapIndex(reflect.ValueOf("again"), reflect.ValueOf(2))
			field(node(f, 2), "Node", "Links").SetInt(2)
		},
		func(f *tree.FS) {
			field(node(f, 4), "names").SetMapIndex(reflect.ValueOf("l"), reflect.Value{})
			field(node(f, 6), "Node", "Links").SetInt(0)
		},
	} {
		f := plant()
		breaks(f)
		if Tree(f) {
			t.Error(i)
		}
	}
	// The newest node, where all that was ever done was to make some.
	f := tree.New(0)
	f.Make(1, "a", api.Node{Kind: api.KFile})
	f.Make(1, "b", api.Node{Kind: api.KFile})
	field(node(f, 3), "Node", "Links").SetInt(2)
	if Tree(f) {
		t.Error("the newest node")
	}
}

func TestOutside(t *testing.T) {
	f := plant()
	number := func(s string) string { n, _, _ := strings.Cut(s, " "); return n }
	for i, c := range []struct {
		dir  int
		want string
	}{{1, ""}, {2, "1 4 5 6"}, {4, "1 2"}, {3, "1 2 4 5 6"}, {99, "1 2 3 4 5 6"}} {
		var l []string
		for _, s := range Outside(f, c.dir) {
			l = append(l, number(s))
		}
		if got := strings.Join(l, " "); got != c.want {
			t.Error(i, got)
		}
	}
	before := Outside(f, 2)
	for i, change := range []func(*tree.FS){
		func(g *tree.FS) { g.Set(5, api.Node{Mode: 1}) }, func(g *tree.FS) { g.Set(5, api.Node{}) }, func(g *tree.FS) { g.Write(5, 4, []byte("b")) }, func(g *tree.FS) { g.Grow(5, 99) }, func(g *tree.FS) { g.Remove(4, "g") }, func(g *tree.FS) { g.Move(4, "g", 4, "i") },
		func(g *tree.FS) { g.Move(4, "g", 1, "g") }, func(g *tree.FS) { g.Make(4, "new", api.Node{Kind: api.KFifo}) }, func(g *tree.FS) { g.Link(4, "again", 3) }, func(g *tree.FS) { g.Set(1, api.Node{Mode: 0o755, Time: 3}) }, func(g *tree.FS) { g.Move(1, "in", 1, "inner") },
	} {
		g := f.Copy()
		change(g)
		if slices.Equal(Outside(g, 2), before) {
			t.Error(i, "is not told")
		}
	}
	g := f.Copy()
	g.Remove(2, "f")
	// What was named below in, too, was not outside; without that name it is.
	if l := Outside(g, 2); len(l) != 5 || number(l[1]) != "3" {
		t.Error(l)
	}
	g = f.Copy()
	g.Set(2, api.Node{Mode: 7})
	g.Make(2, "new", api.Node{Kind: api.KFile})
	g.Write(3, 0, []byte("ZZ"))
	if !slices.Equal(Outside(g, 2), before) {
		t.Error("what is below dir is told")
	}
}

func TestLinesTellNodesApart(t *testing.T) {
	seen := map[string]int{}
	for i, n := range []api.Node{
		{Kind: api.KFile}, {Kind: api.KFifo}, {Kind: api.KChar}, {Kind: api.KBlock}, {Kind: api.KDir}, {Kind: api.KSym, Target: "a"}, {Kind: api.KSym, Target: "b"}, {Kind: api.KSym, Target: "a b"}, {Kind: api.KSym, Target: "a\" \"b"},
		{Kind: api.KFile, Mode: 1}, {Kind: api.KFile, User: 1}, {Kind: api.KFile, Group: 1}, {Kind: api.KFile, Time: 1}, {Kind: api.KChar, Major: 1}, {Kind: api.KChar, Minor: 1},
	} {
		f := tree.New(0)
		f.Make(1, "x", n)
		line := Outside(f, 99)[1]
		if j, ok := seen[line]; ok {
			t.Error(i, j, line)
		}
		seen[line] = i
	}
	two, other := tree.New(9), tree.New(9)
	for _, f := range []*tree.FS{two, other} {
		f.Make(1, "x", api.Node{Kind: api.KFile})
	}
	two.Write(2, 0, []byte("a\x00b"))
	other.Write(2, 0, []byte("a"))
	other.Write(2, 2, []byte("b"))
	if Outside(two, 99)[1] == Outside(other, 99)[1] {
		t.Error("holes are told as noughts")
	}
}

func TestFold(t *testing.T) {
	f := plant()
	l := pack.Entries(f, 1)
	text, n, e := Fold(l...)
	if !slices.Equal(text, same.Text(f, 1)) || n != len(l) || e != api.OK {
		t.Error(text, n, e)
	}
	bad := append(l[:2:2], api.Entry{Kind: api.KFile, Name: "../x"}, l[2])
	text, n, e = Fold(bad...)
	g := tree.New(1000)
	extract.All(g, 1, l[:2]...)
	if !slices.Equal(text, same.Text(g, 1)) || n != 2 || e != api.ErrPath {
		t.Error(text, n, e)
	}
	if text, n, e := Fold(); len(text) != 0 || n != 0 || e != api.OK {
		t.Error(text, n, e)
	}
}

func TestFits(t *testing.T) {
	f := plant()
	f.Set(4, api.Node{})
	f.Set(2, api.Node{})
	for form := 1; form <= 3; form++ {
		if name, ok := Fits(form, f, 1); name != "" || !ok {
			t.Error(form, name)
		}
	}
	long := strings.Repeat("n", 200)
	f.Make(2, long, api.Node{Kind: api.KFile})
	for form, want := range map[int]string{api.FUstar: "in/" + long, api.FPax: "", api.FGnu: "", 0: "in", 4: "in"} {
		if name, ok := Fits(form, f, 1); name != want || ok != (want == "") {
			t.Error(form, name, ok)
		}
	}
	f.Grow(5, 1<<20+1)
	for form, want := range map[int]string{api.FPax: "", api.FGnu: "g"} {
		if name, ok := Fits(form, f, 4); name != want || ok != (want == "") {
			t.Error(form, name, ok)
		}
	}
	if name, ok := Fits(9, f, 99); name != "" || !ok {
		t.Error("nothing is not told", name)
	}
}

func TestUnpackedBelowDirOutsideStays(t *testing.T) {
	f := plant()
	f.Make(2, "up", api.Node{Kind: api.KSym, Target: "../out"})
	before := Outside(f, 2)
	for _, e := range []api.Entry{
		{Kind: api.KFile, Name: "up/g"}, {Kind: api.KFile, Name: "../out/g"}, {Kind: api.KFile, Name: "/out/g"}, {Kind: api.KHard, Name: "g", Link: "up/g"}, {Kind: api.KHard, Name: "g", Link: "../out/g"}, {Kind: api.KDir, Name: "up"}, {Kind: api.KDump, Name: "up/x"}, {Kind: api.KDir, Name: "."},
	} {
		b, _, _ := write.All(api.FPax, 1, e)
		bag.Unpack(f, 2, b, bag.Opt{Most: 1 << 20})
		if !slices.Equal(Outside(f, 2), before) || !Tree(f) {
			t.Error(e.Name, Outside(f, 2))
		}
	}
}
