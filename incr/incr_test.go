package incr

import (
	"slices"
	"strconv"
	"strings"
	"testing"

	"portmanteau/api"
	"portmanteau/entry"
	"portmanteau/pack"
	"portmanteau/read"
	"portmanteau/same"
	"portmanteau/tree"
	"portmanteau/walk"
	"portmanteau/write"
)

// plant has d (2), d/f (3), d/s (4, a directory), d/s/g (5), a (6), b (3 again).
func plant() *tree.FS {
	f := tree.New(1000)
	f.Make(1, "d", api.Node{Kind: api.KDir, Mode: 0o700})
	f.Make(2, "f", api.Node{Kind: api.KFile, Mode: 0o600, User: 9})
	f.Make(2, "s", api.Node{Kind: api.KDir})
	f.Make(4, "g", api.Node{Kind: api.KSym, Target: "x"})
	f.Make(1, "a", api.Node{Kind: api.KFile})
	f.Link(1, "b", 3)
	f.Write(3, 0, []byte("abc"))
	return f
}

// brief tells entries: a kind's letter, the name, and what it links to or names.
func brief(l []api.Entry) string {
	var words []string
	for _, e := range l {
		word := string(" FHSCBDPI"[e.Kind]) + ":" + e.Name
		if e.Kind == api.KHard {
			word += "=" + e.Link
		}
		if e.Kind == api.KDump {
			word += "(" + strings.Join(e.Names, ",") + ")"
		}
		words = append(words, word)
	}
	return strings.Join(words, " ")
}

func paths(f *tree.FS, dir int) string {
	var l []string
	for _, s := range walk.All(f, dir) {
		l = append(l, s.Path)
	}
	return strings.Join(l, " ")
}

func TestSnapAndChanged(t *testing.T) {
	f := plant()
	s := Snap(f, 1)
	if s.Clock != f.Clock() || !slices.Equal(s.Seen, walk.All(f, 1)) || len(s.Seen) != 6 {
		t.Error(s)
	}
	if s := Snap(f, 2); s.Clock != f.Clock() || len(s.Seen) != 3 || s.Seen[0].Path != "f" {
		t.Error(s)
	}
	n, _ := f.Stat(3)
	for i, c := range []struct {
		change int
		path   string
		ino    int
		want   bool
	}{{s.Clock, "b", 3, false}, {s.Clock, "d/f", 3, false}, {s.Clock + 1, "b", 3, true}, {0, "b", 4, true}, {0, "c", 3, true}, {0, "", 3, true}, {-1, "a", 6, false}} {
		n.Change = c.change
		if Changed(n, c.path, c.ino, s) != c.want {
			t.Error(i)
		}
	}
	if !Changed(api.Node{}, "a", 6, api.Snap{}) {
		t.Error("an empty Snap has seen nothing")
	}
}

func TestDumps(t *testing.T) {
	whole := "I:.(Ya,Yb,Dd) F:a F:b I:d(Yf,Ds) H:d/f=b I:d/s(Yg) S:d/s/g"
	for i, c := range []struct {
		change func(*tree.FS)
		want   string
	}{
		{func(f *tree.FS) {}, "I:.(Na,Nb,Dd) I:d(Nf,Ds) I:d/s(Ng)"},
		{func(f *tree.FS) { f.Write(6, 0, []byte("x")) }, "I:.(Ya,Nb,Dd) F:a I:d(Nf,Ds) I:d/s(Ng)"},
		{func(f *tree.FS) { f.Write(3, 0, []byte("x")) }, "I:.(Na,Yb,Dd) F:b I:d(Yf,Ds) H:d/f=b I:d/s(Ng)"},
		{func(f *tree.FS) { f.Remove(1, "b") }, "I:.(Na,Dd) I:d(Yf,Ds) F:d/f I:d/s(Ng)"},
		{func(f *tree.FS) { f.Set(2, api.Node{}) }, "I:.(Na,Nb,Dd) I:d(Nf,Ds) I:d/s(Ng)"},
		{func(f *tree.FS) { f.Set(5, api.Node{}) }, "I:.(Na,Nb,Dd) I:d(Nf,Ds) I:d/s(Yg) S:d/s/g"},
		{func(f *tree.FS) { f.Move(2, "s", 1, "s") }, "I:.(Na,Nb,Dd,Ds) I:d(Nf) I:s(Yg) S:s/g"},
		{func(f *tree.FS) { f.Move(1, "d", 1, "e") }, "I:.(Na,Yb,De) F:b I:e(Yf,Ds) H:e/f=b I:e/s(Yg) S:e/s/g"},
		{func(f *tree.FS) { f.Make(2, "new", api.Node{Kind: api.KFifo}) }, "I:.(Na,Nb,Dd) I:d(Nf,Ynew,Ds) P:d/new I:d/s(Ng)"},
		{func(f *tree.FS) { f.Link(4, "h", 5) }, "I:.(Na,Nb,Dd) I:d(Nf,Ds) I:d/s(Yg,Yh) S:d/s/g H:d/s/h=d/s/g"},
		{func(f *tree.FS) { walk.Drop(f, 1, "d") }, "I:.(Na,Yb) F:b"},
		{func(f *tree.FS) { f.Remove(1, "a"); f.Make(1, "a", api.Node{Kind: api.KDir}) }, "I:.(Da,Nb,Dd) I:a() I:d(Nf,Ds) I:d/s(Ng)"},
		{func(f *tree.FS) { f.Remove(4, "g"); f.Remove(2, "s"); f.Make(2, "s", api.Node{Kind: api.KFile}) }, "I:.(Na,Nb,Dd) I:d(Nf,Ys) F:d/s"},
	} {
		f := plant()
		s := Snap(f, 1)
		c.change(f)
		if got := brief(Dump(f, 1, s)); got != c.want {
			t.Errorf("%d: %s", i, got)
		}
	}
	f := plant()
	if got := brief(Dump(f, 1, api.Snap{})); got != whole {
		t.Error(got)
	}
	// Two directories that changed places are seen by path, but not by node.
	f.Make(1, "e", api.Node{Kind: api.KDir})
	s := Snap(f, 1)
	f.Move(1, "e", 1, "x")
	f.Move(1, "d", 1, "e")
	f.Move(1, "x", 1, "d")
	if got := brief(Dump(f, 1, s)); got != "I:.(Na,Yb,Dd,De) F:b I:d() I:e(Yf,Ds) H:e/f=b I:e/s(Yg) S:e/s/g" {
		t.Error(got)
	}
}

func TestDumpTellsNodes(t *testing.T) {
	f := plant()
	f.Set(2, api.Node{Mode: 1, User: 2, Group: 3, Time: 4})
	f.Set(1, api.Node{Mode: 5, User: 6, Group: 7, Time: 8})
	l := Dump(f, 1, api.Snap{})
	whole, _ := pack.Entry(f, 3, "b")
	for i, want := range map[int]api.Entry{
		0: {Kind: api.KDump, Name: ".", Mode: 5, User: 6, Group: 7, Time: 8, Names: []string{"Ya", "Yb", "Dd"}}, 2: whole,
		3: {Kind: api.KDump, Name: "d", Mode: 1, User: 2, Group: 3, Time: 4, Names: []string{"Yf", "Ds"}}, 4: {Kind: api.KHard, Name: "d/f", Link: "b", Mode: 0o600, User: 9},
	} {
		if !entry.Same(l[i], want) {
			t.Errorf("%d: %+v", i, l[i])
		}
	}
	if got := brief(Dump(f, 2, api.Snap{})); got != "I:.(Yf,Ds) F:f I:s(Yg) S:s/g" {
		t.Error(got)
	}
	for _, dir := range []int{3, 5, 99} {
		if l := Dump(f, dir, api.Snap{}); len(l) != 0 {
			t.Error(dir, l)
		}
	}
	// A tree may be below dir by one name and outside by another.
	s := Snap(f, 2)
	f.Set(3, api.Node{})
	if got := brief(Dump(f, 2, s)); got != "I:.(Yf,Ds) F:f I:s(Ng)" {
		t.Error(got)
	}
}

func dump(name string, names ...string) api.Entry {
	return api.Entry{Kind: api.KDump, Name: name, Names: names}
}

func TestRestoreDrops(t *testing.T) {
	for i, c := range []struct {
		l    []api.Entry
		want string
		n    int
		e    api.Errno
	}{
		{nil, "a b d d/f d/s d/s/g", 0, api.OK}, {[]api.Entry{dump(".", "Na", "Nb", "Dd")}, "a b d d/f d/s d/s/g", 1, api.OK}, {[]api.Entry{dump(".")}, "", 1, api.OK}, {[]api.Entry{dump(".", "Ya", "Nb")}, "a b", 1, api.OK},
		{[]api.Entry{dump(".", "Da", "Nb", "Dd")}, "b d d/f d/s d/s/g", 1, api.OK}, {[]api.Entry{dump(".", "Na", "Nb", "Yd")}, "a b", 1, api.OK}, {[]api.Entry{dump(".", "Na", "Nb", "Nd")}, "a b", 1, api.OK}, {[]api.Entry{dump("d", "Nf")}, "a b d d/f", 1, api.OK},
		{[]api.Entry{dump(".", "Dd", "Nd", "Na", "Da", "Nx", "Dy")}, "", 1, api.OK}, {[]api.Entry{dump(".", "Nd", "Dd", "Da", "Ya")}, "a d d/f d/s d/s/g", 1, api.OK},
		{[]api.Entry{dump("new", "Nx")}, "a b d d/f d/s d/s/g new", 1, api.OK}, {[]api.Entry{dump("a", "Nx")}, "a b d d/f d/s d/s/g", 1, api.OK}, {[]api.Entry{dump("../x")}, "a b d d/f d/s d/s/g", 0, api.ErrPath}, {[]api.Entry{dump("a/x")}, "a b d d/f d/s d/s/g", 0, api.ErrDir},
		{[]api.Entry{dump("."), dump(".", "Qx")}, "", 1, api.ErrArg}, {[]api.Entry{{Kind: api.KDump, Name: ".", Mode: -1}}, "a b d d/f d/s d/s/g", 0, api.ErrArg}, {[]api.Entry{{Kind: api.KDir, Name: "."}}, "a b d d/f d/s d/s/g", 1, api.OK},
		{[]api.Entry{{Kind: api.KFile, Name: "d"}}, "a b d", 1, api.OK}, {[]api.Entry{{Kind: api.KSym, Name: "d/s", Link: "x"}}, "a b d d/f d/s", 1, api.OK}, {[]api.Entry{{Kind: api.KFifo, Name: "."}}, "a b d d/f d/s d/s/g", 0, api.ErrPath},
		{[]api.Entry{{Kind: api.KHard, Name: "d", Link: "a"}}, "a b d", 1, api.OK}, {[]api.Entry{{Kind: api.KHard, Name: "d", Link: "d/f"}}, "a b d", 1, api.OK}, {[]api.Entry{{Kind: api.KHard, Name: "d", Link: "d/s/g"}}, "a b", 0, api.ErrNone},
		{[]api.Entry{{Kind: api.KHard, Name: "d", Link: "d/s"}}, "a b d d/f d/s d/s/g", 0, api.ErrBusy}, {[]api.Entry{{Kind: api.KHard, Name: "x", Link: "d"}}, "a b d d/f d/s d/s/g", 0, api.ErrBusy}, {[]api.Entry{{Kind: api.KHard, Name: "d", Link: "none"}}, "a b d d/f d/s d/s/g", 0, api.ErrNone},
	} {
		f := plant()
		n, e := Restore(f, 1, c.l...)
		if got := paths(f, 1); got != c.want || n != c.n || e != c.e {
			t.Errorf("%d: %s; %d %v", i, got, n, e)
		}
	}
	f := plant()
	if n, e := Restore(f, 99, dump(".")); n != 0 || e != api.ErrNone || paths(f, 1) != "a b d d/f d/s d/s/g" {
		t.Error(n, e)
	}
	if n, e := Restore(f, 1, api.Entry{Kind: api.KHard, Name: "d", Link: "d/f"}); n != 1 || e != api.OK {
		t.Error(n, e)
	}
	if ino, _ := f.Find(1, "d"); ino != 3 {
		t.Error("the node that the link led to is another", ino)
	}
}

func TestRestoreSetsDirectoriesAtTheEnd(t *testing.T) {
	f := tree.New(100)
	l := []api.Entry{{Kind: api.KDump, Name: ".", Names: []string{"Dd"}, Time: 1, Mode: 2}, {Kind: api.KDump, Name: "d", Names: []string{"Yf"}, Time: 3, Mode: 4}, {Kind: api.KFile, Name: "d/f"}, {Kind: api.KFile, Name: "../x"}}
	if n, e := Restore(f, 1, l...); n != 3 || e != api.ErrPath {
		t.Fatal(n, e)
	}
	for ino, want := range map[int]api.Node{1: {Kind: api.KDir, Time: 1, Mode: 2, Links: 1}, 2: {Kind: api.KDir, Time: 3, Mode: 4, Links: 1}} {
		n, _ := f.Stat(ino)
		n.Change = 0
		if n != want {
			t.Error(ino, n)
		}
	}
}

func TestRestoreStaysBelow(t *testing.T) {
	f := plant()
	in, _ := f.Make(1, "in", api.Node{Kind: api.KDir})
	f.Make(in, "up", api.Node{Kind: api.KSym, Target: "../d"})
	for _, e := range []api.Entry{dump("up"), dump("up/s"), dump(".."), dump("/d"), dump("up/../../d"), {Kind: api.KFile, Name: "up/f"}, {Kind: api.KHard, Name: "x", Link: "../a"}} {
		Restore(f, in, e)
	}
	if got := paths(f, 2); got != "f s s/g" || strings.Join(f.Names(1), " ") != "a b d in" {
		t.Error(got, f.Names(1))
	}
}

// tangle changes a tree at random.
type tangle struct {
	f *tree.FS
	x uint32
}

func (g *tangle) next(n int) int {
	g.x = g.x*1664525 + 1013904223
	return int(g.x>>8) % n
}

func (g *tangle) dir() int {
	dirs := []int{1}
	for _, s := range walk.All(g.f, 1) {
		if n, _ := g.f.Stat(s.Ino); n.Kind == api.KDir {
			dirs = append(dirs, s.Ino)
		}
	}
	return dirs[g.next(len(dirs))]
}

func (g *tangle) ino() int {
	l := walk.All(g.f, 1)
	if len(l) == 0 {
		return 1
	}
	return l[g.next(len(l))].Ino
}

func (g *tangle) part() string { return strconv.Itoa(g.next(5)) }

func (g *tangle) step() {
	n := api.Node{Kind: []int{api.KFile, api.KSym, api.KDir, api.KDir, api.KChar, api.KFifo, api.KFile}[g.next(7)], Mode: g.next(4096), Time: g.next(1000) - 500}
	if n.Kind == api.KSym {
		n.Target = "t" + g.part()
	}
	switch g.next(9) {
	case 0, 1, 2:
		g.f.Make(g.dir(), g.part(), n)
	case 3:
		g.f.Link(g.dir(), g.part(), g.ino())
	case 4:
		g.f.Remove(g.dir(), g.part())
	case 5:
		g.f.Move(g.dir(), g.part(), g.dir(), g.part())
	case 6:
		g.f.Set(g.ino(), n)
	case 7:
		g.f.Write(g.ino(), g.next(40), []byte("written"))
	case 8:
		if g.next(4) == 0 {
			walk.Drop(g.f, g.dir(), g.part())
		} else {
			g.f.Grow(g.ino(), g.next(40))
		}
	}
}

func TestWhatIsNewMakesTheTreeAsItIs(t *testing.T) {
	for seed := range uint32(300) {
		g := &tangle{f: tree.New(10000), x: seed * 7919}
		back := tree.New(10000)
		s := api.Snap{}
		for round := range 6 {
			for range 3 + g.next(30) {
				g.step()
			}
			l := Dump(g.f, 1, s)
			b, _, e := write.All(api.FPax, 1, l...)
			if e != api.OK {
				t.Fatal(e)
			}
			if l, _, e = read.All(b); e != api.OK {
				t.Fatal(e)
			}
			s = Snap(g.f, 1)
			if n, e := Restore(back, 1, l...); n != len(l) || e != api.OK {
				t.Fatal(seed, round, n, len(l), e, brief(l))
			}
			if !same.Same(g.f, 1, back, 1) {
				t.Fatalf("%d %d: %s\n%s\n%s", seed, round, brief(l), strings.Join(same.Text(g.f, 1), "\n"), strings.Join(same.Text(back, 1), "\n"))
			}
			m, _ := g.f.Stat(1)
			n, _ := back.Stat(1)
			if m.Mode != n.Mode || m.Time != n.Time {
				t.Fatal(seed, round, m, n)
			}
		}
	}
}
