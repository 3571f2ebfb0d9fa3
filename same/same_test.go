package same

import (
	"hash/crc32"
	"math"
	"slices"
	"strconv"
	"strings"
	"testing"

	"portmanteau/api"
	"portmanteau/tree"
)

func plant() *tree.FS {
	f := tree.New(1 << 22)
	f.Make(1, "d", api.Node{Kind: api.KDir, Mode: 1, User: 2, Group: 3, Time: 4})                   // 2
	f.Make(2, "f", api.Node{Kind: api.KFile, Mode: 0o600, User: 7, Group: 8, Time: -1500000000})    // 3
	f.Make(1, "\xff", api.Node{Kind: api.KSym, Target: "a\xab", Time: 1999999999})                  // 4
	f.Make(1, "c", api.Node{Kind: api.KChar, Major: 5, Minor: 6})                                   // 5
	f.Make(1, "b", api.Node{Kind: api.KBlock, Major: 1<<20 - 1})                                    // 6
	f.Make(1, "p", api.Node{Kind: api.KFifo, Mode: 0o7777, User: 1<<31 - 1, Time: math.MinInt + 1}) // 7
	f.Link(1, "g", 3)
	f.Write(3, 3, []byte("abc"))
	f.Grow(3, 8)
	f.Set(2, api.Node{Mode: 1, User: 2, Group: 3, Time: 4})
	return f
}

func sum(s string) string {
	return strconv.Itoa(int(crc32.ChecksumIEEE([]byte(s))))
}

func TestText(t *testing.T) {
	file := " 1 384 7 8 -1500000000 8 " + sum("\x00\x00\x00abc\x00\x00") + " 3"
	want := []string{
		"62 5 0 0 0 0 1048575 0 0",
		"63 4 0 0 0 0 5 6 1",
		"64 6 1 2 3 4 2",
		"642f66" + file,
		"67" + file,
		"70 7 4095 2147483647 0 " + strconv.Itoa(math.MinInt+1) + " 5",
		"ff 3 0 0 0 1999999999 61ab 6",
	}
	f := plant()
	if got := Text(f, 1); !slices.Equal(got, want) {
		t.Errorf("%s\n%s", strings.Join(got, "\n"), strings.Join(want, "\n"))
	}
	if got := Text(f, 2); !slices.Equal(got, []string{"66 1 384 7 8 -1500000000 8 " + sum("\x00\x00\x00abc\x00\x00") + " 0"}) {
		t.Error(got)
	}
	for _, dir := range []int{3, 99} {
		if len(Text(f, dir)) != 0 || len(Rough(f, dir)) != 0 {
			t.Error(dir)
		}
	}
}

func TestRough(t *testing.T) {
	f := plant()
	rough := Rough(f, 1)
	for i, line := range Text(f, 1) {
		words := strings.Split(line, " ")
		ns, _ := strconv.Atoi(words[5])
		words[5] = strconv.Itoa(Seconds(ns))
		if rough[i] != strings.Join(words, " ") {
			t.Error(rough[i])
		}
	}
	if !strings.Contains(rough[3], " 8 -2 8 ") || !strings.Contains(rough[6], " 0 1 61ab") {
		t.Error(rough)
	}
}

func TestGreatFiles(t *testing.T) {
	f := tree.New(1 << 22)
	f.Make(1, "a", api.Node{Kind: api.KFile})
	f.Write(2, 0x0102030405, []byte("xy"))
	f.Write(2, 5, []byte("z"))
	pieces := "\x00\x00\x00\x00\x00\x00\x00\x05z\x00\x00\x00\x01\x02\x03\x04\x05xy"
	if l := Text(f, 1); !strings.HasSuffix(l[0], " 4328719367 "+sum(pieces)+" 0") {
		t.Error(l, sum(pieces))
	}
	f.Grow(2, 1<<20)
	dense := make([]byte, 1<<20)
	dense[5] = 'z'
	if l := Text(f, 1); !strings.HasSuffix(l[0], " 1048576 "+sum(string(dense))+" 0") {
		t.Error(l)
	}
	f.Grow(2, 1<<20+1)
	if l := Text(f, 1); !strings.HasSuffix(l[0], " 1048577 "+sum(pieces[:9])+" 0") {
		t.Error(l)
	}
}

func TestSame(t *testing.T) {
	f := plant()
	if !Same(f, 1, f.Copy(), 1) || !Same(f, 99, tree.New(0), 1) || Same(f, 1, f, 2) {
		t.Error("Same")
	}
	for i, change := range []func(*tree.FS){
		func(g *tree.FS) { g.Write(3, 0, []byte{1}) },
		func(g *tree.FS) { g.Grow(3, 9) },
		func(g *tree.FS) { g.Set(5, api.Node{Mode: 1}) },
		func(g *tree.FS) { g.Set(5, api.Node{User: 1}) },
		func(g *tree.FS) { g.Set(5, api.Node{Group: 1}) },
		func(g *tree.FS) { g.Set(5, api.Node{Time: 1}) },
		func(g *tree.FS) { g.Move(1, "c", 1, "c2") },
		func(g *tree.FS) { g.Remove(1, "g") },
		func(g *tree.FS) { g.Link(1, "z", 4) },
		func(g *tree.FS) { g.Remove(1, "c"); g.Make(1, "c", api.Node{Kind: api.KChar, Major: 5, Minor: 7}) },
		func(g *tree.FS) {
			g.Remove(1, "\xff")
			g.Make(1, "\xff", api.Node{Kind: api.KSym, Target: "a", Time: 1999999999})
		},
		func(g *tree.FS) { g.Remove(1, "p"); g.Link(1, "p", 3) },
		// Alike in all but that it is a file of its own.
		func(g *tree.FS) {
			g.Remove(1, "g")
			ino, _ := g.Make(1, "g", api.Node{Kind: api.KFile, Mode: 0o600, User: 7, Group: 8, Time: -1500000000})
			g.Write(ino, 3, []byte("abc"))
			g.Grow(ino, 8)
		},
	} {
		g := f.Copy()
		change(g)
		if Same(f, 1, g, 1) || Same(g, 1, f, 1) {
			t.Error(i)
		}
	}
	g := f.Copy()
	g.Write(3, 0, []byte{0, 0, 0})
	if !Same(f, 1, g, 1) {
		t.Error("noughts in holes and noughts that were written differ")
	}
	g.Set(1, api.Node{Mode: 7})
	if !Same(f, 1, g, 1) {
		t.Error("what dir itself is counts")
	}
}

func TestSeconds(t *testing.T) {
	for ns, want := range map[int]int{0: 0, -1: -1, 1: 0, 999999999: 0, 1000000000: 1, -1000000000: -1, -1000000001: -2, math.MaxInt: 9223372036, math.MinInt: -9223372037} {
		if s := Seconds(ns); s != want {
			t.Error(ns, s)
		}
	}
}
