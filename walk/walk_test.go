package walk

import (
	"slices"
	"strconv"
	"strings"
	"testing"

	"portmanteau/api"
	"portmanteau/tree"
)

// plant makes a tree of lines: a path ending with a slash is a directory, one with an arrow a link, one with an equals sign another name.
func plant(t *testing.T, lines ...string) *tree.FS {
	t.Helper()
	f := tree.New(1000)
	for _, line := range lines {
		path, target, isLink := strings.Cut(line, " -> ")
		path, other, isName := strings.Cut(path, " = ")
		parts := strings.Split(strings.TrimSuffix(path, "/"), "/")
		last := len(parts) - 1
		dir, e := Down(f, 1, parts[:last]...)
		if e != api.OK {
			t.Fatal(line, e)
		}
		n := api.Node{Kind: api.KFile}
		switch {
		case isLink:
			n = api.Node{Kind: api.KSym, Target: target}
		case strings.HasSuffix(path, "/"):
			n.Kind = api.KDir
		}
		if isName {
			ino, _ := Down(f, 1, strings.Split(other, "/")...)
			e = f.Link(dir, parts[last], ino)
		} else {
			_, e = f.Make(dir, parts[last], n)
		}
		if e != api.OK {
			t.Fatal(line, e)
		}
	}
	return f
}

func TestDown(t *testing.T) {
	f := plant(t, "a/", "a/b/", "a/b/f", "l -> a")
	for i, c := range []struct {
		dir   int
		parts string
		want  int
		e     api.Errno
	}{
		{1, "a", 2, api.OK}, {1, "a b f", 4, api.OK}, {2, "b", 3, api.OK}, {1, "l", 5, api.OK}, {1, "l b", 0, api.ErrDir}, {1, "a b f x", 0, api.ErrDir}, {1, "x b", 0, api.ErrNone},
		{1, "a ..", 0, api.ErrPath}, {1, "a . b", 0, api.ErrPath}, {99, "a", 0, api.ErrNone}, {4, "a", 0, api.ErrDir},
	} {
		if ino, e := Down(f, c.dir, strings.Split(c.parts, " ")...); ino != c.want || e != c.e {
			t.Error(i, ino, e)
		}
	}
	for _, dir := range []int{1, 4, 99, -1} {
		if ino, e := Down(f, dir); ino != dir || e != api.OK {
			t.Error("no parts", ino, e)
		}
	}
}

func TestAll(t *testing.T) {
	f := plant(t, "b/", "b/z", "b/a/", "b/a/x", "a", "b.c", "b-", "l -> b", "b/same = a")
	var l []string
	for _, s := range All(f, 1) {
		l = append(l, s.Path+":"+strconv.Itoa(s.Ino))
	}
	if got := strings.Join(l, " "); got != "a:6 b:2 b/a:4 b/a/x:5 b/same:6 b/z:3 b-:8 b.c:7 l:9" {
		t.Error(got)
	}
	if l := All(f, 2); len(l) != 4 || l[0] != (api.Seen{Path: "a", Ino: 4}) || l[1].Path != "a/x" {
		t.Error(l)
	}
	for _, dir := range []int{3, 9, 99} {
		if l := All(f, dir); len(l) != 0 {
			t.Error(dir, l)
		}
	}
}

func TestDrop(t *testing.T) {
	f := plant(t, "a/", "a/b/", "a/b/f", "a/g", "a/k/", "keep/", "keep/f = a/b/f", "l -> a")
	for i, c := range []struct {
		dir  int
		part string
		e    api.Errno
	}{{99, "a", api.ErrNone}, {4, "a", api.ErrDir}, {1, "a/b", api.ErrPath}, {1, "x", api.ErrNone}} {
		if e := Drop(f, c.dir, c.part); e != c.e || f.Clock() != 8 {
			t.Error(i, e)
		}
	}
	if e := Drop(f, 1, "l"); e != api.OK || len(All(f, 1)) != 7 {
		t.Error("what a link leads to is gone, too", e)
	}
	if e := Drop(f, 1, "a"); e != api.OK || f.Clock() != 8+1+5 || !slices.Equal(f.Names(1), []string{"keep"}) {
		t.Error(e, f.Clock(), f.Names(1))
	}
	// f was taken away from b as the second of all.
	if n, e := f.Stat(4); e != api.OK || n.Links != 1 || n.Change != 10 {
		t.Error(n, e)
	}
}

func TestBelow(t *testing.T) {
	f := plant(t, "a/", "a/b/", "a/b/f", "g", "h = a/b/f", "a/l -> ../g")
	for i, c := range []struct {
		dir, ino int
		want     bool
	}{{1, 1, true}, {1, 4, true}, {2, 4, true}, {2, 3, true}, {2, 1, false}, {2, 5, false}, {3, 2, false}, {5, 5, true}, {5, 4, false}, {2, 6, true}, {99, 1, false}, {1, 99, false}} {
		if Below(f, c.dir, c.ino) != c.want {
			t.Error(i)
		}
	}
}

func TestFollow(t *testing.T) {
	f := plant(t, "a/", "a/b/", "a/b/f", "abs -> /a/b", "rel -> a/b", "a/up -> ../g", "g", "a/top -> ..", "out -> ../../../g", "self -> self", "ping -> pong", "pong -> ping", "gone -> nowhere", "file -> g", "slash -> /", "a/b/back -> ../up", "dots -> ./a//./b/", "a/b/abs -> /g", "a/b/far -> /a/b/../../g")
	for _, c := range []struct {
		path string
		want int
		e    api.Errno
	}{
		{"a", 2, api.OK}, {"/a", 2, api.OK}, {"a/b/f", 4, api.OK}, {"//a//./b/", 3, api.OK}, {".", 1, api.OK}, {"/", 1, api.OK}, {"..", 1, api.OK}, {"../../a", 2, api.OK}, {"a/../g", 8, api.OK}, {"a/b/../..", 1, api.OK},
		{"abs/f", 4, api.OK}, {"abs", 3, api.OK}, {"rel/f", 4, api.OK}, {"a/up", 8, api.OK}, {"a/top/g", 8, api.OK}, {"out", 8, api.OK}, {"slash/g", 8, api.OK}, {"abs/..", 2, api.OK}, {"a/b/back", 8, api.OK}, {"dots/f", 4, api.OK}, {"file", 8, api.OK}, {"a/b/abs", 8, api.OK}, {"a/b/far", 8, api.OK},
		{"g/..", 1, api.OK}, {"g/.", 8, api.OK}, {"g/", 8, api.OK}, {"g/x", 0, api.ErrDir}, {"file/x", 0, api.ErrDir}, {"x/..", 0, api.ErrNone}, {"gone", 0, api.ErrNone}, {"gone/..", 0, api.ErrNone}, {"a/x", 0, api.ErrNone},
		{"self", 0, api.ErrLoop}, {"ping/x", 0, api.ErrLoop}, {"a/../self/..", 0, api.ErrLoop},
		{"", 0, api.ErrPath}, {"a\x00", 0, api.ErrPath}, {"x/\x00", 0, api.ErrPath}, {strings.Repeat("/", 4097), 0, api.ErrPath}, {strings.Repeat("/", 4096), 1, api.OK}, {strings.Repeat("n", 256), 0, api.ErrPath}, {"x/" + strings.Repeat("n", 256), 0, api.ErrNone},
	} {
		if ino, e := Follow(f, 1, c.path); ino != c.want || e != c.e {
			t.Errorf("%q: %d %v", c.path, ino, e)
		}
	}
}

func TestFollowStaysBelow(t *testing.T) {
	f := plant(t, "secret", "a/", "a/l -> /secret", "a/m -> ../secret", "a/secret", "a/n -> /../../b", "a/b/", "a/b/up -> ../../..")
	for path, want := range map[string]int{"l": 6, "m": 6, "../secret": 6, "/secret": 6, "n": 8, "b/up": 3, "b/up/b/../../../secret": 6, "/": 3, ".": 3} {
		if ino, e := Follow(f, 3, path); ino != want || e != api.OK {
			t.Errorf("%q: %d %v", path, ino, e)
		}
	}
	// Where there is nothing to find, dir may be anything.
	for _, dir := range []int{2, 99} {
		for _, path := range []string{".", "/", "..", "./../"} {
			if ino, e := Follow(f, dir, path); ino != dir || e != api.OK {
				t.Error(dir, path, ino, e)
			}
		}
	}
	if ino, e := Follow(f, 99, "a"); ino != 0 || e != api.ErrNone {
		t.Error(ino, e)
	}
	if ino, e := Follow(f, 2, "a"); ino != 0 || e != api.ErrDir {
		t.Error(ino, e)
	}
}

func TestFortyLinks(t *testing.T) {
	lines := []string{"l0"}
	for i := range 41 {
		lines = append(lines, "l"+strconv.Itoa(i+1)+" -> l"+strconv.Itoa(i))
	}
	f := plant(t, lines...)
	if ino, e := Follow(f, 1, "l40"); ino != 2 || e != api.OK {
		t.Error(ino, e)
	}
	if ino, e := Follow(f, 1, "l41"); ino != 0 || e != api.ErrLoop {
		t.Error(ino, e)
	}
	if ino, e := Follow(f, 1, "l20/../l20/../l20"); ino != 0 || e != api.ErrLoop {
		t.Error(ino, e)
	}
	if ino, e := Follow(f, 1, "l20/../l20"); ino != 2 || e != api.OK {
		t.Error("forty in two", ino, e)
	}
	if ino, e := Follow(f, 1, "l20/../l21"); ino != 0 || e != api.ErrLoop {
		t.Error("forty-one in two", ino, e)
	}
}
