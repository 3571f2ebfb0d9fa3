package bag

import (
	"bytes"
	"math"
	"slices"
	"strings"
	"testing"

	"portmanteau/api"
	"portmanteau/entry"
	"portmanteau/gzip"
	"portmanteau/incr"
	"portmanteau/pack"
	"portmanteau/read"
	"portmanteau/same"
	"portmanteau/tree"
	"portmanteau/walk"
	"portmanteau/write"
)

// plant makes a tree; a plain one is told by all forms, but for nanoseconds and holes.
func plant(plain bool) *tree.FS {
	f := tree.New(1 << 24)
	d, _ := f.Make(1, "d", api.Node{Kind: api.KDir, Mode: 0o755, User: 1000, Group: 100, Time: 1700000000123456789})
	g, _ := f.Make(d, "file", api.Node{Kind: api.KFile, Mode: 0o644, Time: 1600000000000000001})
	f.Write(g, 0, []byte(strings.Repeat("trees packed into archives ", 100)))
	f.Link(1, "again", g)
	h, _ := f.Make(d, "holes", api.Node{Kind: api.KFile, Mode: 0o600})
	f.Write(h, 5000, []byte("behind a hole"))
	f.Grow(h, 9999)
	f.Make(1, "empty", api.Node{Kind: api.KFile})
	f.Make(1, "link", api.Node{Kind: api.KSym, Target: "../../etc"})
	f.Make(d, "char", api.Node{Kind: api.KChar, Major: 4, Minor: 64})
	f.Make(d, "block", api.Node{Kind: api.KBlock, Major: 8})
	f.Make(1, "pipe", api.Node{Kind: api.KFifo, Mode: 0o600})
	if !plain {
		f.Make(1, strings.Repeat("n", 255), api.Node{Kind: api.KFile, Time: -1, User: 1<<31 - 1})
		f.Make(d, "far", api.Node{Kind: api.KSym, Target: strings.Repeat("t", 1024), Time: math.MinInt})
		f.Grow(h, 1<<40)
	}
	f.Set(d, api.Node{Mode: 0o500, User: 1000, Group: 100, Time: 1700000000123456789})
	return f
}

const most = 1 << 24

func TestThereAndBack(t *testing.T) {
	f := plant(false)
	for _, level := range []int{math.MinInt, -1, 0, 1, 6, 9, 77} {
		for _, factor := range []int{-1, 0, 1, 20, 64, 1000} {
			o := Opt{Form: api.FPax, Factor: factor, Level: level, Most: most}
			b, name, e := Pack(f, 1, o)
			if e != api.OK || name != "" || gzip.Is(b) != (level >= 0) {
				t.Fatal(level, factor, name, e)
			}
			g := tree.New(1 << 24)
			n, e := Unpack(g, 1, b, o)
			if e != api.OK || n != len(walk.All(f, 1)) || !same.Same(f, 1, g, 1) {
				t.Error(level, factor, n, e)
			}
		}
	}
	g := plant(true)
	for _, form := range []int{api.FUstar, api.FGnu} {
		o := Opt{Form: form, Factor: 1, Level: 6, Most: most}
		b, _, e := Pack(g, 1, o)
		h := tree.New(1 << 24)
		if _, g := Unpack(h, 1, b, o); e != api.OK || g != api.OK {
			t.Fatal(form, e, g)
		}
		if !slices.Equal(same.Rough(g, 1), same.Rough(h, 1)) {
			t.Error(form, "is not the tree")
		}
	}
}

func TestPack(t *testing.T) {
	f := plant(false)
	tar, _, _ := pack.Tar(f, 1, api.FPax, 3)
	if b, _, _ := Pack(f, 1, Opt{Form: api.FPax, Factor: 3, Level: -1}); !bytes.Equal(b, tar) {
		t.Error("level -1 is not the archive itself")
	}
	b, _, _ := Pack(f, 1, Opt{Form: api.FPax, Factor: 3, Level: 6})
	if want, _ := gzip.Member(api.Gz{OS: 255}, 6, tar); !bytes.Equal(b, want) {
		t.Error("it is not the archive's member")
	}
	for _, sizes := range [][]int{{1}, {0, -5, 3}, {512}, {math.MaxInt}} {
		if c, _, e := Pack(f, 1, Opt{Form: api.FPax, Factor: 3, Level: 6, Sizes: sizes}); e != api.OK || !bytes.Equal(b, c) {
			t.Error("something hangs on sizes", sizes, e)
		}
	}
	for _, level := range []int{-1, 6} {
		if b, name, e := Pack(f, 1, Opt{Form: api.FUstar, Level: level}); b != nil || name != "d/far" || e != api.ErrField {
			t.Error(level, name, e)
		}
		if b, name, e := Pack(f, 1, Opt{Level: level}); b != nil || name != "again" || e != api.ErrArg {
			t.Error(level, name, e)
		}
	}
}

func member(b []byte) []byte {
	m, _ := gzip.Member(api.Gz{}, 6, b)
	return m
}

func TestPlain(t *testing.T) {
	m := member([]byte("some bytes"))
	for i, c := range []struct {
		b    []byte
		most int
		want string
		at   int
		e    api.Errno
	}{
		{nil, 9, "", 0, api.OK}, {[]byte("abc"), 0, "abc", 0, api.OK}, {[]byte{0x1f}, 9, "\x1f", 0, api.OK}, {[]byte{0x1f, 0x8b}, 9, "", 0, api.ErrEnd}, {[]byte{0x1f, 0x8b, 9}, 9, "", 0, api.ErrHead},
		{m, 10, "some bytes", 0, api.OK}, {m, -1, "", 10, api.ErrQuota}, {m[:len(m)-1], 10, "some bytes", len(m) - 1, api.ErrEnd}, {append(slices.Clone(m), 'x'), 10, "some bytes", len(m), api.ErrMagic},
	} {
		b, at, e := Plain(c.b, Opt{Most: c.most})
		if string(b) != c.want || at != c.at || e != c.e {
			t.Errorf("%d: %q at %d: %v", i, b, at, e)
		}
	}
	own := []byte("abc")
	b, _, _ := Plain(own, Opt{})
	b[0] = 'z'
	if own[0] != 'a' {
		t.Error("b is shared")
	}
}

func TestListAndItsErrors(t *testing.T) {
	f := plant(true)
	l := pack.Entries(f, 1)
	tar, _, _ := write.All(api.FPax, 1, l...)
	body, _, _ := write.Body(api.FPax, l...)
	first, _, _ := write.Body(api.FPax, l[:1]...)
	m := member(tar)
	sum := slices.Clone(m)
	sum[len(sum)-8] ^= 1
	junk := append(slices.Clone(tar), 1)
	for i, c := range []struct {
		b    []byte
		most int
		n    int
		e    api.Errno
	}{
		{tar, 0, len(l), api.OK}, {m, most, len(l), api.OK}, {body, 0, len(l), api.ErrEnd}, {member(body), most, len(l), api.ErrEnd}, {junk, 0, len(l), api.ErrForm}, {nil, 0, 0, api.ErrEnd}, {member(nil), most, 0, api.ErrEnd},
		{sum, most, len(l), api.ErrSum}, {append(slices.Clone(m), 'x'), most, len(l), api.ErrMagic}, {m, len(first) + 1, 1, api.ErrQuota}, {m, -1, 0, api.ErrQuota}, {m[:5], most, 0, api.ErrEnd},
		{append(member(junk), 'x'), most, len(l), api.ErrForm}, {append(member(body), 'x'), most, len(l), api.ErrMagic}, {[]byte{0x1f, 0x8b, 7}, most, 0, api.ErrHead},
	} {
		o := Opt{Most: c.most}
		got, e := List(c.b, o)
		if e != c.e || len(got) != c.n || !slices.EqualFunc(got, l[:len(got)], entry.Same) {
			t.Error(i, len(got), e)
		}
		g := tree.New(1 << 24)
		if n, e := Unpack(g, 1, c.b, o); n != c.n || e != c.e {
			t.Error(i, "Unpack", n, e)
		}
	}
	// What can't be made is told ahead of what can't be read.
	g := tree.New(10)
	if n, e := Unpack(g, 1, sum, Opt{Most: most}); n != 0 || e != api.ErrQuota {
		t.Error(n, e)
	}
}

func TestAppend(t *testing.T) {
	f, g := plant(true), tree.New(100)
	g.Make(1, "new", api.Node{Kind: api.KFifo})
	tar, _, _ := pack.Tar(f, 1, api.FGnu, 20)
	for _, b := range [][]byte{tar, member(tar)} {
		own := bytes.Clone(b)
		for _, level := range []int{-1, 9} {
			o := Opt{Form: api.FUstar, Factor: 2, Level: level, Most: most, Sizes: []int{100}}
			out, e := Append(b, g, 1, o)
			if e != api.OK || gzip.Is(out) != (level >= 0) || !bytes.Equal(b, own) {
				t.Fatal(level, e)
			}
			plain, _, _ := Plain(out, o)
			_, at, _ := read.All(tar)
			if !bytes.HasPrefix(plain, tar[:at]) || len(plain)%1024 != 0 {
				t.Error(level, "what was there is not as it was")
			}
			l, e := List(out, o)
			before, _ := List(tar, o)
			if e != api.OK || !slices.EqualFunc(l, append(before, api.Entry{Kind: api.KFifo, Name: "new"}), entry.Same) {
				t.Error(level, e)
			}
		}
	}
	cut := member(tar)
	for i, c := range []struct {
		b []byte
		o Opt
		e api.Errno
	}{
		{cut[:len(cut)-1], Opt{Form: 2, Most: most}, api.ErrEnd}, {cut, Opt{Form: 2, Most: 5}, api.ErrQuota}, {tar[:700], Opt{Form: 2}, api.ErrEnd}, {append(slices.Clone(tar), 1), Opt{Form: 2}, api.ErrForm}, {tar, Opt{Form: 9}, api.ErrArg}, {nil, Opt{Form: 2}, api.ErrEnd},
	} {
		if b, e := Append(c.b, g, 1, c.o); b != nil || e != c.e {
			t.Error(i, len(b), e)
		}
	}
}

func TestHostileBytes(t *testing.T) {
	f := plant(false)
	for _, level := range []int{-1, 9} {
		o := Opt{Form: api.FPax, Factor: 1, Level: level, Most: 1 << 16}
		b, _, _ := Pack(f, 1, o)
		x := uint32(1)
		for range 1500 {
			c := slices.Clone(b)
			for range 1 + x>>30 {
				x = x*1664525 + 1013904223
				c[int(x>>8)%len(c)] ^= byte(x>>24) | 1
			}
			g := tree.New(3000)
			g.Make(1, "in", api.Node{Kind: api.KDir})
			g.Make(1, "out", api.Node{Kind: api.KFile})
			outside, _ := g.Stat(3)
			n, e := Unpack(g, 2, c, o)
			l, _ := List(c, o)
			after, _ := g.Stat(3)
			if g.Used() > 3000 || n > len(l) || after != outside || !slices.Equal(g.Names(1), []string{"in", "out"}) {
				t.Fatal(n, e, g.Used())
			}
		}
	}
}

func TestDumpsInBags(t *testing.T) {
	f := plant(false)
	whole, _, _ := write.All(api.FPax, 1, incr.Dump(f, 1, api.Snap{})...)
	s := incr.Snap(f, 1)
	walk.Drop(f, 1, "d")
	f.Make(1, "late", api.Node{Kind: api.KFile, Mode: 1})
	more, _, _ := write.All(api.FPax, 1, incr.Dump(f, 1, s)...)
	g := tree.New(1 << 24)
	for _, b := range [][]byte{member(whole), more} {
		l, e := List(b, Opt{Most: most})
		if _, g := incr.Restore(g, 1, l...); e != api.OK || g != api.OK {
			t.Fatal(e, g)
		}
	}
	if !same.Same(f, 1, g, 1) {
		t.Error(same.Text(g, 1))
	}
}
