package console

import (
	"bytes"
	"slices"
	"strconv"
	"strings"
	"testing"

	"portmanteau/api"
	"portmanteau/bag"
	"portmanteau/gzip"
	"portmanteau/incr"
	"portmanteau/same"
	"portmanteau/walk"
	"portmanteau/write"
)

// ask answers lines, each with the answer that is wanted behind an arrow.
func ask(t *testing.T, c *Console, lines ...string) {
	t.Helper()
	for _, x := range lines {
		line, want, _ := strings.Cut(x, " => ")
		if got := c.Do(line); got != want {
			t.Errorf("%q: %q, not %q", line, got, want)
		}
	}
}

func TestRun(t *testing.T) {
	for text, want := range map[string]string{
		"": "", "\n\n": "", "file a 01\ndrop b": "ok\nerror 10\n", "\ndir a\n\nx\n": "ok\nerror 20\n", "snap": "ok\n", "dir a\r\n": "ok\n",
		strings.Repeat("\n", 10000): "", strings.Repeat("\n", 10001): "error 21\n", strings.Repeat("x", 601): "error 21\n", "dir " + strings.Repeat("n", 597) + "\nsnap": "error 21\nok\n",
	} {
		if got := Run(text); got != want {
			t.Errorf("%q: %q", text[:min(len(text), 30)], got)
		}
	}
	text := "dir a\nfile a/b 6162\nlink c a/b\nset a 7 1 2 3\npack . 2 1 10\ndrop a\nunpack .\ntext .\nlist"
	if a, b := Run(text), Run(text); a != b {
		t.Error(a, b)
	}
}

func TestLinesThatAreNone(t *testing.T) {
	c := New()
	long := strings.Repeat("61", 200)
	for _, line := range []string{
		"", " ", "x", "dir", "dir ", " dir a", "dir a ", "dir  a", "dir a b", "DIR a", "dir\ta", "file a", "file a 0", "file a 0g", "file a g0", "file a AB", "file a 01 02", "file a --", "file a " + long + "61", "file a 0x", "sym a", "fifo a b", "link a", "link a b c",
		"write a 1", "write a -1 01", "write a 01 01", "write a +1 01", "write a 10000001 01", "write a 1", "write a x 01", "grow a", "grow a 1.0", "grow a 1 2", "grow a 99999999999999999999", "grow a -0", "drop", "set a 1 2 3", "set a 1 2 3 4 5", "set a 1 2 3 -4", "pack a 1 1", "pack a 1 1 1 1", "pack a 1 1 -1",
		"list a", "unpack", "unpack a b", "append a 1 1", "append a b 1 1", "snap a", "incr", "incr a", "incr 1 2", "restore", "text", "text a b", "-", "file - ",
	} {
		if got := c.Do(line); got != "error 20" {
			t.Errorf("%q: %q", line, got)
		}
	}
	if c.FS().Clock() != 0 {
		t.Error("something was changed")
	}
	ask(t, c, "file a "+long+" => ok", "grow a 10000000 => ok", "grow a 0 => ok", "file - - => ok")
	if got := c.Do("dir " + strings.Repeat("n/", 298)); got != "error 10" {
		t.Error("600 bytes", got)
	}
	if got := c.Do("dir " + strings.Repeat("n/", 298) + "n"); got != "error 21" {
		t.Error("601 bytes", got)
	}
}

func TestNodesAreMade(t *testing.T) {
	c := New()
	ask(t, c, "dir d => ok", "file d/f 616263 => ok", "file d/e - => ok", "sym l 2e2e => ok", "fifo p => ok", "link d/g d/f => ok", "link h l => ok")
	for path, want := range map[string]api.Node{
		"d": {Kind: api.KDir, Links: 1, Time: 7, Change: 7}, "d/f": {Kind: api.KFile, Size: 3, Links: 2, Change: 7}, "d/e": {Kind: api.KFile, Links: 1, Change: 4},
		"l": {Kind: api.KSym, Target: "..", Links: 2, Change: 8}, "p": {Kind: api.KFifo, Links: 1, Change: 6},
	} {
		ino, _ := walk.Down(c.FS(), 1, strings.Split(path, "/")...)
		if n, e := c.FS().Stat(ino); e != api.OK || n != want {
			t.Error(path, n, e)
		}
	}
	ask(t, c,
		"dir d => error 11", "file l 01 => error 11", "sym x - => error 1", "sym x 00 => error 1", "fifo d/f/x => error 12", "dir l/x => error 12", "dir x/y => error 10", "link x y => error 10", "link x d => error 13", "link d l => error 11", "link x . => error 13",
		"dir . => error 9", "file ./ 01 => error 9", "sym . 01 => error 9", "fifo ./. => error 9", "link . d => error 9", "drop . => error 9", "dir ../x => error 9", "dir /x => error 9", "link ../x ../y => error 9", "link x ../y => error 9", "link x/y ../z => error 10", "link d/f/x/y ../z => error 12", "dir "+strings.Repeat("n", 256)+" => error 9",
	)
	ask(t, c, "dir ./d//x/ => ok", "drop d/x => ok", "drop d => ok", "drop d => error 10", "drop l/x => error 12")
	if names := c.FS().Names(1); !slices.Equal(names, []string{"h", "l", "p"}) {
		t.Error(names)
	}
}

func TestNodesAreChanged(t *testing.T) {
	c := New()
	ask(t, c, "file a 616263 => ok", "write a 5 7879 => ok", "write a 1 - => ok", "write a 1 42 => ok", "grow a 9 => ok", "set a 4095 10000000 2 3 => ok")
	if b, _ := c.FS().Read(2, 0, 99); string(b) != "aBc\x00\x00xy\x00\x00" {
		t.Errorf("%q", b)
	}
	if n, _ := c.FS().Stat(2); n.Mode != 0o7777 || n.User != 10000000 || n.Group != 2 || n.Time != 3 || n.Change != c.FS().Clock() {
		t.Error(n)
	}
	ask(t, c, "set . 1 2 3 4 => ok", "set a 4096 0 0 0 => error 1", "set b 4096 0 0 0 => error 10", "set ../a 0 0 0 0 => error 9", "write . 0 01 => error 13", "grow . 0 => error 13", "write b 0 01 => error 10", "grow /a 0 => error 9", "write a/b 0 01 => error 12")
	if n, _ := c.FS().Stat(1); n.Mode != 1 || n.Time != 4 {
		t.Error(n)
	}
}

func TestTheQuota(t *testing.T) {
	c := New()
	ask(t, c, "file a "+strings.Repeat("61", 200)+" => ok")
	for i := 1; i < 50; i++ {
		ask(t, c, "write a "+strconv.Itoa(200*i)+" "+strings.Repeat("61", 200)+" => ok")
	}
	ask(t, c, "write a 10000 61 => error 5", "write a 9999 6161 => error 5", "write a 9999 62 => ok", "file b 61 => error 5", "file c - => ok")
	if c.FS().Used() != 10000 {
		t.Error(c.FS().Used())
	}
	ask(t, c, "grow a 9999 => ok", "write b 0 6162 => error 5")
	if b, _ := c.FS().Read(3, 0, 9); string(b) != "a" {
		t.Errorf("%q", b)
	}
}

func fill(t *testing.T) *Console {
	t.Helper()
	c := New()
	ask(t, c, "dir d => ok", "file d/f 616263 => ok", "link g d/f => ok", "sym l 64 => ok", "set d 493 1 2 0 => ok")
	return c
}

func TestPackAndUnpack(t *testing.T) {
	for _, form := range []string{"1", "2", "3"} {
		for _, level := range []int{0, 1, 7} {
			c := fill(t)
			n, _ := strconv.Atoi(form)
			b, _, _ := bag.Pack(c.FS(), 1, bag.Opt{Form: n, Factor: 20, Level: level - 1})
			if gzip.Is(b) != (level > 0) {
				t.Error(level)
			}
			ask(t, c, "pack . "+form+" 20 "+strconv.Itoa(level)+" => ok "+strconv.Itoa(len(b)))
			if !bytes.Equal(c.bag, b) {
				t.Error(form, level, "is another bag")
			}
			ask(t, c, "list => ok\n6 d\n1 d/f\n2 g\n3 l", "dir x => ok", "unpack x => ok 4", "unpack x => ok 4")
			x, _ := c.FS().Find(1, "x")
			c.Do("drop x/y")
			if got := same.Text(c.FS(), x); len(got) != 4 {
				t.Error(got)
			}
			before := fill(t)
			if !same.Same(c.FS(), x, before.FS(), 1) {
				t.Error(form, level, "is not the tree")
			}
		}
	}
}

func TestErrorsOfBags(t *testing.T) {
	c := New()
	ask(t, c, "list => error 2", "unpack . => error 2 0", "restore . => error 2 0", "append . 2 1 0 => error 2", "unpack x => error 10", "restore x => error 10", "unpack ../x => error 9", "pack x 9 1 0 => error 10", "append x 9 1 0 => error 10", "text x => error 10", "text ../x => error 9", "pack . 9 1 0 => ok 1024", "list => ok", "text . => ok")
	c = fill(t)
	ask(t, c, "pack . 2 1 0 => ok 3584", "pack . 0 1 0 => error 1", "pack . 4 1 0 => error 1", "append . 4 1 0 => error 1", "pack d/f 4 1 0 => ok 1024", "list => ok", "pack . 2 1 0 => ok 3584", "unpack d/f => error 12 0", "unpack l => error 12 0", "text d/f => ok")
	// A bag that breaks off in the midst is unpacked as far as it goes.
	c.bag = c.bag[:1024]
	ask(t, c, "dir x => ok", "unpack x => error 2 1", "dir y => ok", "restore y => error 2 1", "list => error 2")
	packed, _ := gzip.Member(api.Gz{}, 9, make([]byte, 1048577))
	c.bag = packed
	ask(t, c, "list => error 5", "unpack . => error 5 0", "append . 2 1 0 => error 5")
	c.bag, _ = gzip.Member(api.Gz{}, 9, make([]byte, 1048576))
	ask(t, c, "list => ok")
}

func TestADirectoryInTheWay(t *testing.T) {
	c := New()
	ask(t, c, "file a - => ok", "pack . 2 1 0 => ok 1536", "dir x => ok", "dir x/a => ok", "dir x/a/b => ok", "unpack x => error 13 0", "restore x => ok 1", "text x => ok\n61 1 0 0 0 0 0 0 0")
}

func TestQuotaOfUnpack(t *testing.T) {
	c := New()
	ask(t, c, "file a - => ok", "grow a 6000 => ok")
	c.Do("pack . 1 1 1")
	ask(t, c, "dir x => ok", "dir y => ok", "unpack x => ok 1", "unpack y => error 5 0")
	// As much as fits is written, and its size stays.
	y, _ := walk.Down(c.FS(), 1, "y", "a")
	if n, e := c.FS().Stat(y); e != api.OK || n.Size != 6000 || c.FS().Used() != 10000 {
		t.Error(n, e, c.FS().Used())
	}
}

func TestAppend(t *testing.T) {
	c := fill(t)
	ask(t, c, "pack d 1 1 0 => ok 2048", "append . 2 2 0 => ok 5120", "list => ok\n1 f\n6 d\n1 d/f\n2 g\n3 l", "append x 2 2 0 => error 10", "list => ok\n1 f\n6 d\n1 d/f\n2 g\n3 l")
	b, e := bag.Append(c.bag, c.FS(), 2, bag.Opt{Form: 3, Factor: 1, Level: 5})
	if e != api.OK {
		t.Fatal(e)
	}
	ask(t, c, "append d 3 1 6 => ok "+strconv.Itoa(len(b)), "list => ok\n1 f\n6 d\n1 d/f\n2 g\n3 l\n1 f")
}

func TestIncr(t *testing.T) {
	c := fill(t)
	told := func(s api.Snap) string {
		b, _, _ := write.All(2, 1, incr.Dump(c.FS(), 1, s)...)
		return "incr 2 => ok " + strconv.Itoa(len(b))
	}
	ask(t, c, told(api.Snap{}), "incr 4 => error 1", "list => ok\n8 .\n1 g\n3 l\n8 d\n2 d/f", "snap => ok")
	s := incr.Snap(c.FS(), 1)
	ask(t, c, told(s), "list => ok\n8 .\n8 d", "file d/n 78 => ok", "drop l => ok")
	ask(t, c, told(s), "list => ok\n8 .\n8 d\n1 d/n")
	other := fill(t)
	other.bag = c.bag
	ask(t, other, "restore . => ok 3")
	if !same.Same(c.FS(), 1, other.FS(), 1) {
		t.Error(same.Text(other.FS(), 1))
	}
	ask(t, New(), "file a - => ok", "incr 2 => ok 3584", "incr 1 => ok 2560")
	other = fill(t)
	ask(t, other, "dir x => ok", "pack . 2 1 0 => ok 4096", "restore x => ok 5", "text x/x => ok")
	names := other.FS().Names(1)
	if !slices.Equal(names, []string{"d", "g", "l", "x"}) {
		t.Error(names)
	}
}

func TestText(t *testing.T) {
	c := fill(t)
	lines := strings.Join(same.Text(c.FS(), 1), "\n")
	ask(t, c, "text . => ok\n"+lines, "text d => ok\n66 1 0 0 0 0 3 891568578 0")
	if c.Do("text .") != "ok\n"+lines {
		t.Error("it is told otherwise")
	}
}

func TestFS(t *testing.T) {
	c := New()
	f := c.FS()
	ask(t, c, "dir a => ok")
	if f != c.FS() || !slices.Equal(f.Names(1), []string{"a"}) || f.Clock() != 1 {
		t.Error(f.Names(1))
	}
	if e := f.Write(1, 0, nil); e != api.ErrBusy {
		t.Error(e)
	}
}

func TestHostileTexts(t *testing.T) {
	verbs := []string{"dir", "file", "sym", "fifo", "link", "write", "grow", "drop", "set", "pack", "list", "unpack", "append", "snap", "incr", "restore", "text"}
	words := []string{"a", "a/b", "b", ".", "..", "0", "1", "2", "3", "6162", "-", "l/x", "c", "10000000"}
	x := uint32(3)
	next := func(n int) int {
		x = x*1664525 + 1013904223
		return int(x>>8) % n
	}
	for range 150 {
		var text strings.Builder
		for range 60 {
			verb := verbs[next(len(verbs))]
			text.WriteString(verb)
			kinds, _ := shape(verb)
			for i := range len(kinds) {
				word := words[next(len(words))]
				if kinds[i] == aNumber && next(8) > 0 {
					word = strconv.Itoa(next(4))
				}
				text.WriteString(" " + word)
			}
			text.WriteString("\n")
		}
		if a, b := Run(text.String()), Run(text.String()); a != b || strings.Count(a, "\n") < 60 {
			t.Fatalf("%s\n%s\n%s", text.String(), a, b)
		}
	}
}
