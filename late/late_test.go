package late

import (
	"testing"

	"portmanteau/api"
	"portmanteau/tree"
)

// makeOne makes a directory in the root; one named "no" is refused.
func makeOne(f *tree.FS, dir int, x api.Entry) api.Errno {
	if x.Name == "no" {
		return api.ErrBusy
	}
	_, e := f.Make(dir, x.Name, api.Node{Kind: api.KDir})
	if e == api.ErrExists {
		return api.OK
	}
	return e
}

func TestWhatWasSaidLastHolds(t *testing.T) {
	f := tree.New(0)
	l := []api.Entry{{Kind: api.KDir, Name: "a", Time: 1}, {Kind: api.KDump, Name: "a", Time: 2}, {Kind: api.KFile, Name: "b", Time: 3}, {Kind: api.KDir, Name: "c", Mode: 4, User: 5, Group: 6, Time: 7}, {Name: "no"}, {Kind: api.KDir, Name: "a", Time: 8}}
	if n, e := All(f, 1, l, makeOne); n != 4 || e != api.ErrBusy {
		t.Fatal(n, e)
	}
	for ino, want := range map[int]api.Node{2: {Time: 2}, 3: {}, 4: {Mode: 4, User: 5, Group: 6, Time: 7}} {
		n, _ := f.Stat(ino)
		if n.Mode != want.Mode || n.User != want.User || n.Group != want.Group || n.Time != want.Time {
			t.Error(ino, n)
		}
	}
}

func TestThoseThatAreGoneAreLeft(t *testing.T) {
	f := tree.New(0)
	remove := func(f *tree.FS, dir int, x api.Entry) api.Errno {
		if x.Kind == api.KFile {
			return f.Remove(dir, x.Name)
		}
		return makeOne(f, dir, x)
	}
	n, e := All(f, 1, []api.Entry{{Kind: api.KDir, Name: "a"}, {Kind: api.KDir, Name: "b"}, {Kind: api.KFile, Name: "a"}}, remove)
	if n != 3 || e != api.OK || f.Clock() != 4 {
		t.Error(n, e, f.Clock())
	}
	if n, e := All(f, 1, nil, makeOne); n != 0 || e != api.OK {
		t.Error(n, e)
	}
}
