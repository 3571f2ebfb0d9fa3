package tree

import (
	"bytes"
	"math"
	"slices"
	"strconv"
	"strings"
	"testing"

	"portmanteau/api"
)

func dir() api.Node  { return api.Node{Kind: api.KDir, Mode: 0o700} }
func file() api.Node { return api.Node{Kind: api.KFile, Mode: 0o600} }

// grown is a tree with: a (directory, 2), a/f (file, 3), l (link, 4), a/d (directory, 5), and the clock at 4.
func grown(t *testing.T) *FS {
	t.Helper()
	f := New(100)
	for i, x := range []struct {
		dir  int
		part string
		n    api.Node
	}{{1, "a", dir()}, {2, "f", file()}, {1, "l", api.Node{Kind: api.KSym, Target: "a/f"}}, {2, "d", dir()}} {
		if ino, e := f.Make(x.dir, x.part, x.n); ino != i+2 || e != api.OK {
			t.Fatal(i, ino, e)
		}
	}
	return f
}

func errno(e api.Errno) int { return int(e) }

func stat(t *testing.T, f *FS, ino int) api.Node {
	t.Helper()
	n, e := f.Stat(ino)
	if e != api.OK {
		t.Fatal(ino, e)
	}
	return n
}

func TestRoot(t *testing.T) {
	f := New(-5)
	if f.Root() != 1 || f.Clock() != 0 || f.Used() != 0 || len(f.Names(1)) != 0 {
		t.Error(f.Root(), f.Clock(), f.Used())
	}
	if n := stat(t, f, 1); n != (api.Node{Kind: api.KDir, Mode: 0o755, Links: 1}) {
		t.Error(n)
	}
	for _, ino := range []int{0, -1, 2, math.MaxInt} {
		if n, e := f.Stat(ino); e != api.ErrNone || n != (api.Node{}) {
			t.Error(ino, n, e)
		}
	}
}

func TestMakeTellsTheNode(t *testing.T) {
	for i, n := range []api.Node{
		{Kind: api.KFile, Mode: 0o7777, User: 1<<31 - 1, Group: 1<<31 - 1, Time: math.MaxInt},
		{Kind: api.KDir, Time: math.MinInt}, {Kind: api.KFifo}, {Kind: api.KSym, Target: strings.Repeat("t", 1024)},
		{Kind: api.KChar, Major: 1<<20 - 1, Minor: 0}, {Kind: api.KBlock, Major: 0, Minor: 1<<20 - 1},
	} {
		f := New(0)
		ino, e := f.Make(1, "x", n)
		n.Links, n.Change = 1, 1
		if got := stat(t, f, ino); e != api.OK || ino != 2 || got != n {
			t.Error(i, ino, e, got)
		}
		if d := stat(t, f, 1); f.Clock() != 1 || d.Time != 1 || d.Change != 1 {
			t.Error(i, f.Clock(), d)
		}
		if got, e := f.Find(1, "x"); got != 2 || e != api.OK {
			t.Error(i, got, e)
		}
	}
}

func TestMakeRefusesNodes(t *testing.T) {
	f := New(0)
	for i, n := range []api.Node{
		{}, {Kind: api.KHard}, {Kind: api.KDump}, {Kind: -1}, {Kind: 9}, {Kind: api.KFile, Mode: -1}, {Kind: api.KFile, Mode: 0o10000}, {Kind: api.KFile, User: -1}, {Kind: api.KFile, User: 1 << 31},
		{Kind: api.KFile, Group: -1}, {Kind: api.KFile, Group: 1 << 31}, {Kind: api.KFile, Target: "x"}, {Kind: api.KDir, Target: "x"}, {Kind: api.KSym}, {Kind: api.KSym, Target: "a\x00"}, {Kind: api.KSym, Target: strings.Repeat("t", 1025)},
		{Kind: api.KFile, Major: 1}, {Kind: api.KFifo, Minor: 1}, {Kind: api.KChar, Major: -1}, {Kind: api.KChar, Major: 1 << 20}, {Kind: api.KBlock, Minor: 1 << 20}, {Kind: api.KBlock, Minor: -1}, {Kind: api.KSym, Target: "x", Major: 1},
		{Kind: api.KFile, Size: 1}, {Kind: api.KFile, Links: 1}, {Kind: api.KFile, Change: 1}, {Kind: api.KBlock, Target: "x"},
	} {
		if ino, e := f.Make(1, "x", n); ino != 0 || e != api.ErrArg || f.Clock() != 0 || len(f.Names(1)) != 0 {
			t.Error(i, ino, e)
		}
	}
}

func TestErrorsInTheirOrder(t *testing.T) {
	f := grown(t)
	before := f.Copy()
	bad := strings.Repeat("p", 256)
	none := func(ino int, e api.Errno) api.Errno {
		if ino != 0 {
			t.Error("a node is told beside an error", ino, e)
		}
		return e
	}
	find := func(d int, part string) api.Errno { return none(f.Find(d, part)) }
	mk := func(d int, part string, n api.Node) api.Errno { return none(f.Make(d, part, n)) }
	read := func(ino, at, n int) api.Errno { _, e := f.Read(ino, at, n); return e }
	for i, c := range []struct{ got, want api.Errno }{
		{find(9, "/"), api.ErrNone}, {find(3, "/"), api.ErrDir}, {find(1, "/"), api.ErrPath}, {find(1, "x"), api.ErrNone}, {find(1, ".."), api.ErrPath}, {find(1, ""), api.ErrPath}, {find(4, "f"), api.ErrDir},
		{mk(9, "", api.Node{}), api.ErrNone}, {mk(3, "", api.Node{}), api.ErrDir}, {mk(1, bad, api.Node{}), api.ErrPath}, {mk(1, "a", api.Node{}), api.ErrArg}, {mk(1, "a", file()), api.ErrExists},
		{f.Link(9, "", 3), api.ErrNone}, {f.Link(3, "", 9), api.ErrNone}, {f.Link(3, "", 2), api.ErrDir}, {f.Link(1, ".", 2), api.ErrPath}, {f.Link(1, "a", 2), api.ErrBusy}, {f.Link(1, "x", 1), api.ErrBusy}, {f.Link(1, "a", 3), api.ErrExists}, {f.Link(2, "f", 3), api.ErrExists},
		{f.Remove(9, ""), api.ErrNone}, {f.Remove(3, ""), api.ErrDir}, {f.Remove(1, "a/f"), api.ErrPath}, {f.Remove(1, "x"), api.ErrNone}, {f.Remove(1, "a"), api.ErrBusy},
		{f.Move(3, "", 9, ""), api.ErrNone}, {f.Move(9, "", 3, ""), api.ErrNone}, {f.Move(1, "", 3, ""), api.ErrDir}, {f.Move(3, "", 1, ""), api.ErrDir}, {f.Move(1, "x", 1, ""), api.ErrPath}, {f.Move(1, "", 1, "a"), api.ErrPath},
		{f.Move(1, "x", 1, "a"), api.ErrNone}, {f.Move(1, "a", 5, "x"), api.ErrBusy}, {f.Move(1, "a", 2, "x"), api.ErrBusy}, {f.Move(1, "a", 2, "f"), api.ErrExists}, {f.Move(1, "l", 1, "l"), api.ErrExists},
		{f.Set(9, api.Node{Mode: -1}), api.ErrNone}, {f.Set(3, api.Node{Mode: 0o10000}), api.ErrArg}, {f.Set(3, api.Node{User: -1}), api.ErrArg}, {f.Set(3, api.Node{Group: 1 << 31}), api.ErrArg},
		{f.Write(9, -1, nil), api.ErrNone}, {f.Write(2, -1, nil), api.ErrBusy}, {f.Write(4, 0, nil), api.ErrBusy}, {f.Write(3, -1, nil), api.ErrArg}, {f.Write(3, 1<<40+1, nil), api.ErrArg}, {f.Write(3, 1<<40, []byte{1}), api.ErrArg}, {f.Write(3, math.MaxInt, []byte{1}), api.ErrArg},
		{f.Grow(9, -1), api.ErrNone}, {f.Grow(1, -1), api.ErrBusy}, {f.Grow(3, -1), api.ErrArg}, {f.Grow(3, 1<<40+1), api.ErrArg},
		{read(9, -1, 0), api.ErrNone}, {read(4, -1, 0), api.ErrBusy}, {read(3, -1, 0), api.ErrArg}, {read(3, 0, -1), api.ErrArg}, {read(3, math.MaxInt, math.MaxInt), api.OK},
		{f.Write(3, 1<<40, nil), api.OK},
	} {
		if c.got != c.want {
			t.Error(i, errno(c.got), errno(c.want))
		}
	}
	if !alike(f, before) {
		t.Error("what is refused changed something")
	}
}

// alike asks whether nothing that may be asked of two trees is told otherwise.
func alike(a, b *FS) bool {
	if a.Clock() != b.Clock() || a.Used() != b.Used() || a.newest != b.newest {
		return false
	}
	for ino := range a.newest + 2 {
		m, e := a.Stat(ino)
		n, g := b.Stat(ino)
		if m != n || e != g || !slices.Equal(a.Names(ino), b.Names(ino)) {
			return false
		}
		for _, part := range a.Names(ino) {
			x, _ := a.Find(ino, part)
			if y, _ := b.Find(ino, part); x != y {
				return false
			}
		}
		if !samePieces(a.Pieces(ino), b.Pieces(ino)) {
			return false
		}
	}
	return true
}

func samePieces(a, b []api.Piece) bool {
	return slices.EqualFunc(a, b, func(p, q api.Piece) bool { return p.At == q.At && bytes.Equal(p.B, q.B) })
}

func TestNamesByBytes(t *testing.T) {
	f := New(0)
	for _, part := range []string{"b", "a", "\xff", "B", "a.", "aa", "a-"} {
		f.Make(1, part, file())
	}
	if l := f.Names(1); strings.Join(l, " ") != "B a a- a. aa b \xff" {
		t.Errorf("%q", l)
	}
	if len(f.Names(2)) != 0 || len(f.Names(99)) != 0 {
		t.Error("no directory has names")
	}
}

func TestLinkAndRemove(t *testing.T) {
	f := grown(t)
	if e := f.Link(5, "g", 3); e != api.OK || f.Clock() != 5 {
		t.Fatal(e)
	}
	if n := stat(t, f, 3); n.Links != 2 || n.Change != 5 || n.Time != 0 {
		t.Error(n)
	}
	if d, a := stat(t, f, 5), stat(t, f, 2); d.Change != 5 || d.Time != 5 || a.Change != 4 || a.Time != 4 || d.Links != 1 {
		t.Error(d, a)
	}
	f.Write(3, 0, []byte("abc"))
	if e := f.Remove(2, "f"); e != api.OK || f.Used() != 3 || f.Clock() != 7 {
		t.Error(e, f.Used(), f.Clock())
	}
	if n, a := stat(t, f, 3), stat(t, f, 2); n.Links != 1 || n.Change != 7 || a.Change != 7 || a.Time != 7 {
		t.Error(n, a)
	}
	if e := f.Remove(2, "d"); e != api.ErrBusy {
		t.Error(e)
	}
	if e := f.Remove(5, "g"); e != api.OK || f.Used() != 0 {
		t.Error(e, f.Used())
	}
	if _, e := f.Stat(3); e != api.ErrNone {
		t.Error("a node without names is there")
	}
	if e := f.Remove(2, "d"); e != api.OK {
		t.Error(e)
	}
	if ino, _ := f.Make(1, "new", file()); ino != 6 {
		t.Error("a number was given twice", ino)
	}
	if e := f.Link(1, "l2", 4); e != api.OK || stat(t, f, 4).Links != 2 {
		t.Error("a link has no two names", e)
	}
}

func TestMove(t *testing.T) {
	f := grown(t)
	if e := f.Move(2, "f", 5, "g"); e != api.OK || f.Clock() != 5 {
		t.Fatal(e)
	}
	for _, ino := range []int{2, 5} {
		if d := stat(t, f, ino); d.Change != 5 || d.Time != 5 {
			t.Error(ino, d)
		}
	}
	if n := stat(t, f, 3); n.Change != 5 || n.Time != 0 || n.Links != 1 {
		t.Error(n)
	}
	if ino, e := f.Find(5, "g"); ino != 3 || e != api.OK || len(f.Names(2)) != 1 {
		t.Error(ino, e)
	}
	if e := f.Move(2, "d", 1, "d"); e != api.OK {
		t.Error(e)
	}
	if d := stat(t, f, 5); d.Change != 6 || d.Time != 5 {
		t.Error("a directory that is moved has another time", d)
	}
	if e := f.Move(1, "a", 5, "a"); e != api.OK {
		t.Error("where it was no longer below", e)
	}
	if e := f.Move(1, "d", 2, "d"); e != api.ErrBusy {
		t.Error("into what is below it now", e)
	}
	if e := f.Move(5, "g", 5, "h"); e != api.OK || f.Clock() != 8 || !slices.Equal(f.Names(5), []string{"a", "h"}) {
		t.Error(e, f.Clock())
	}
}

func TestSet(t *testing.T) {
	f := grown(t)
	if e := f.Set(2, api.Node{Kind: api.KFile, Mode: 1, User: 2, Group: 3, Time: -4, Target: "x", Major: 5, Size: 6, Links: 7}); e != api.OK {
		t.Fatal(e)
	}
	if n := stat(t, f, 2); n != (api.Node{Kind: api.KDir, Mode: 1, User: 2, Group: 3, Time: -4, Links: 1, Change: 5}) {
		t.Error(n)
	}
	if e := f.Set(2, api.Node{Mode: 1, User: 2, Group: 3, Time: -4}); e != api.OK || f.Clock() != 6 || stat(t, f, 2).Change != 6 {
		t.Error("where all is as it was", e)
	}
	if e := f.Set(1, api.Node{}); e != api.OK || stat(t, f, 1).Mode != 0 || stat(t, f, 1).Change != 7 {
		t.Error("the root", e)
	}
}

func TestNodesAreBounded(t *testing.T) {
	f := New(0)
	for i := range 999 {
		if _, e := f.Make(1, strconv.Itoa(i), file()); e != api.OK {
			t.Fatal(i, e)
		}
	}
	if ino, e := f.Make(1, "x", file()); e != api.ErrFull || ino != 0 || f.Clock() != 999 {
		t.Error(ino, e)
	}
	if _, e := f.Make(1, "1", file()); e != api.ErrExists {
		t.Error(e)
	}
	if e := f.Link(1, "x", 2); e != api.OK {
		t.Error("a name is no node", e)
	}
	f.Remove(1, "7")
	if ino, e := f.Make(1, "7", file()); e != api.OK || ino != 1001 {
		t.Error(ino, e)
	}
}

func piece(at int, s string) api.Piece { return api.Piece{At: at, B: []byte(s)} }

func TestWriteMakesPieces(t *testing.T) {
	f := grown(t)
	for i, c := range []struct {
		at   int
		b    string
		want []api.Piece
	}{
		{10, "abc", []api.Piece{piece(10, "abc")}}, {20, "x", []api.Piece{piece(10, "abc"), piece(20, "x")}}, {13, "d", []api.Piece{piece(10, "abcd"), piece(20, "x")}},
		{9, "_", []api.Piece{piece(9, "_abcd"), piece(20, "x")}}, {11, "BC", []api.Piece{piece(9, "_aBCd"), piece(20, "x")}}, {15, "r", []api.Piece{piece(9, "_aBCd"), piece(15, "r"), piece(20, "x")}},
		{14, "q", []api.Piece{piece(9, "_aBCdqr"), piece(20, "x")}}, {0, "0", []api.Piece{piece(0, "0"), piece(9, "_aBCdqr"), piece(20, "x")}},
		{12, "123456789", []api.Piece{piece(0, "0"), piece(9, "_aB123456789")}}, {5, "vwxyz", []api.Piece{piece(0, "0"), piece(5, "vwxyzaB123456789")}},
		{0, "0123456789012345678901234", []api.Piece{piece(0, "0123456789012345678901234")}}, {30, "z", []api.Piece{piece(0, "0123456789012345678901234"), piece(30, "z")}},
	} {
		if e := f.Write(3, c.at, []byte(c.b)); e != api.OK {
			t.Fatal(i, e)
		}
		if l := f.Pieces(3); !samePieces(l, c.want) {
			t.Errorf("%d: %v", i, l)
		}
		if n := stat(t, f, 3); n.Change != 5+i || f.Clock() != 5+i || n.Time != 0 {
			t.Error(i, n)
		}
	}
	if n := stat(t, f, 3); n.Size != 31 || f.Used() != 26 {
		t.Error(n, f.Used())
	}
}

func TestWriteUpToTheQuota(t *testing.T) {
	f := New(10)
	f.Make(1, "a", file())
	f.Make(1, "b", file())
	f.Write(2, 0, []byte("ab"))
	f.Write(2, 4, []byte("ef"))
	clock := f.Clock()
	if e := f.Write(2, 0, []byte("ABCDEFGHIJKLMNOP")); e != api.ErrQuota || f.Used() != 10 || f.Clock() != clock+1 {
		t.Error(e, f.Used(), f.Clock())
	}
	if l, n := f.Pieces(2), stat(t, f, 2); !samePieces(l, []api.Piece{piece(0, "ABCDEFGHIJ")}) || n.Size != 10 || n.Change != clock+1 {
		t.Error(l, n)
	}
	if e := f.Write(3, 0, []byte("x")); e != api.ErrQuota || f.Clock() != clock+1 || stat(t, f, 3).Size != 0 || stat(t, f, 3).Change != 2 {
		t.Error("none fits", e, f.Clock())
	}
	if e := f.Write(2, 3, []byte("defg")); e != api.OK || f.Used() != 10 {
		t.Error("over what is there", e)
	}
	f.Grow(2, 5)
	if f.Used() != 5 {
		t.Error(f.Used())
	}
	// Three are over what is there, five are fresh, and the last one does not fit.
	if e := f.Write(2, 2, []byte("123456789")); e != api.ErrQuota || f.Used() != 10 || !samePieces(f.Pieces(2), []api.Piece{piece(0, "AB12345678")}) {
		t.Error(e, f.Used(), f.Pieces(2))
	}
	f.Remove(1, "a")
	if e := f.Write(3, 100, []byte("0123456789")); e != api.OK || f.Used() != 10 {
		t.Error(e, f.Used())
	}
	if e := f.Write(3, 104, []byte("4567890")); e != api.ErrQuota || !samePieces(f.Pieces(3), []api.Piece{piece(100, "0123456789")}) || stat(t, f, 3).Size != 110 {
		t.Error(e, f.Pieces(3))
	}
	f = New(-1)
	f.Make(1, "a", file())
	if e := f.Write(2, 0, []byte("a")); e != api.ErrQuota {
		t.Error(e)
	}
	if e := f.Write(2, 7, nil); e != api.OK || stat(t, f, 2).Size != 0 || f.Clock() != 1 {
		t.Error("no bytes", e)
	}
}

func TestWriteFillsGaps(t *testing.T) {
	for i, c := range []struct {
		quota, at int
		b, want   string
		size      int
		e         api.Errno
	}{
		// What is there already: 2 to 3 and 6 to 7.
		{8, 0, "01234567", "01234567", 8, api.OK}, {7, 0, "01234567", "01234", 8, api.ErrQuota}, {6, 0, "01234567", "0123", 8, api.ErrQuota}, {5, 0, "01234567", "0", 8, api.ErrQuota}, {4, 0, "01234567", "", 8, api.ErrQuota}, {4, 2, "abc", "ab", 8, api.ErrQuota},
		{6, 4, "456789", "4567", 8, api.ErrQuota}, {7, 4, "456789", "45678", 9, api.ErrQuota}, {4, 6, "ab", "ab", 8, api.OK}, {5, 8, "89", "8", 9, api.ErrQuota}, {6, 2, "234567", "234567", 8, api.OK},
	} {
		f := New(c.quota)
		f.Make(1, "a", file())
		f.Write(2, 2, []byte("--"))
		f.Write(2, 6, []byte("--"))
		e := f.Write(2, c.at, []byte(c.b))
		n := stat(t, f, 2)
		got, _ := f.Read(2, c.at, len(c.want))
		if e != c.e || string(got) != c.want || n.Size != c.size {
			t.Errorf("%d: %v %q %d", i, e, got, n.Size)
		}
		sum := 0
		for _, p := range f.Pieces(2) {
			sum += len(p.B)
		}
		if f.Used() != sum || sum > c.quota {
			t.Error(i, f.Used(), sum)
		}
	}
}

func TestGrowAndRead(t *testing.T) {
	f := grown(t)
	f.Write(3, 4, []byte("efgh"))
	f.Write(3, 12, []byte("mn"))
	for i, c := range []struct {
		at, n int
		want  string
	}{{0, 99, "\x00\x00\x00\x00efgh\x00\x00\x00\x00mn"}, {5, 2, "fg"}, {6, 8, "gh\x00\x00\x00\x00mn"}, {13, 1, "n"}, {14, 5, ""}, {99, 5, ""}, {0, 0, ""}, {8, 4, "\x00\x00\x00\x00"}} {
		if b, e := f.Read(3, c.at, c.n); string(b) != c.want || e != api.OK {
			t.Errorf("%d: %q %v", i, b, e)
		}
	}
	for i, c := range []struct {
		size int
		want []api.Piece
		used int
	}{
		{20, []api.Piece{piece(4, "efgh"), piece(12, "mn")}, 6}, {13, []api.Piece{piece(4, "efgh"), piece(12, "m")}, 5}, {12, []api.Piece{piece(4, "efgh")}, 4},
		{1 << 40, []api.Piece{piece(4, "efgh")}, 4}, {6, []api.Piece{piece(4, "ef")}, 2}, {6, []api.Piece{piece(4, "ef")}, 2}, {4, nil, 0}, {0, nil, 0},
	} {
		clock := f.Clock()
		if e := f.Grow(3, c.size); e != api.OK || f.Clock() != clock+1 {
			t.Fatal(i, e)
		}
		if n := stat(t, f, 3); n.Size != c.size || n.Change != clock+1 || !samePieces(f.Pieces(3), c.want) || f.Used() != c.used {
			t.Error(i, n, f.Pieces(3), f.Used())
		}
	}
	f.Grow(3, 6)
	if b, _ := f.Read(3, 0, 9); !bytes.Equal(b, make([]byte, 6)) {
		t.Error("what was behind the size is there again", b)
	}
	f.Grow(3, 1<<40)
	if b, e := f.Read(3, 1<<39, math.MaxInt); len(b) != 1<<20 || e != api.OK {
		t.Error(len(b), e)
	}
	if b, e := f.Read(3, 1<<40-3, 9); len(b) != 3 || e != api.OK {
		t.Error(len(b), e)
	}
	if len(f.Pieces(2)) != 0 || len(f.Pieces(77)) != 0 || len(f.Pieces(4)) != 0 {
		t.Error("pieces of no file")
	}
}

func TestWritesAsOneByOne(t *testing.T) {
	const size = 60
	f := New(1000)
	f.Make(1, "a", file())
	var bytesThere [size]int // -1 in holes
	for i := range bytesThere {
		bytesThere[i] = -1
	}
	x := uint32(1)
	for round := range 3000 {
		x = x*1664525 + 1013904223
		at, n := int(x>>8%size), int(x>>16%12)
		n = min(n, size-at)
		if x>>28 == 0 {
			f.Grow(2, at)
			for i := at; i < size; i++ {
				bytesThere[i] = -1
			}
		} else {
			b := make([]byte, n)
			for i := range b {
				b[i] = byte(round)
				bytesThere[at+i] = round & 255
			}
			f.Write(2, at, b)
		}
		var want []api.Piece
		used := 0
		for i, v := range bytesThere {
			if v < 0 {
				continue
			}
			used++
			if i == 0 || bytesThere[i-1] < 0 {
				want = append(want, api.Piece{At: i})
			}
			last := &want[len(want)-1]
			last.B = append(last.B, byte(v))
		}
		if !samePieces(f.Pieces(2), want) || f.Used() != used {
			t.Fatal(round, f.Pieces(2), want, f.Used(), used)
		}
	}
}

func TestCopyIsAnother(t *testing.T) {
	f := grown(t)
	f.Write(3, 0, []byte("abc"))
	g := f.Copy()
	if !alike(f, g) {
		t.Fatal("the copy is not as the tree")
	}
	h := f.Copy()
	g.Write(3, 1, []byte("X"))
	g.Make(5, "new", file())
	g.Remove(1, "l")
	g.Set(2, api.Node{})
	if !alike(f, h) || alike(f, g) {
		t.Error("the copy is no other")
	}
	if !slices.Equal(f.Names(1), []string{"a", "l"}) || len(f.Names(5)) != 0 || !slices.Equal(g.Names(1), []string{"a"}) || !slices.Equal(g.Names(5), []string{"new"}) {
		t.Error("names are shared", f.Names(1), g.Names(1))
	}
	f.Write(3, 3, []byte("def"))
	if !samePieces(h.Pieces(3), []api.Piece{piece(0, "abc")}) {
		t.Error(h.Pieces(3))
	}
	if e := h.Write(3, 0, make([]byte, 101)); e != api.ErrQuota {
		t.Error("the quota is not copied", e)
	}
}

func TestOwnMemory(t *testing.T) {
	f := New(100)
	f.Make(1, "a", file())
	own := append(make([]byte, 0, 50), "abcdef"...)
	f.Write(2, 0, own[:3])
	own[0] = 'z'
	l := f.Pieces(2)
	l[0].B[1] = 'z'
	_ = append(l[0].B, 'z')
	f.Write(2, 3, []byte("d"))
	b, _ := f.Read(2, 0, 9)
	_ = append(b, "zz"...)
	if b, _ := f.Read(2, 0, 9); string(b) != "abcd" || string(own[3:]) != "def" {
		t.Errorf("%s %s", b, own)
	}
}
