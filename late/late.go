// Package late puts entries one by one, and at the end gives directories what was last said of them: what is put into
// a directory changes its time, so that this can't be said once and for all when it is made.
package late

import (
	"maps"
	"slices"

	"portmanteau/api"
	"portmanteau/name"
	"portmanteau/tree"
	"portmanteau/walk"
)

// All puts each entry by one, up to the first error, and tells how many went well.
func All(f *tree.FS, dir int, l []api.Entry, one func(*tree.FS, int, api.Entry) api.Errno) (int, api.Errno) {
	said := map[int]api.Entry{}
	n, e := 0, api.OK
	for n < len(l) {
		if e = one(f, dir, l[n]); e != api.OK {
			break
		}
		if ino, ok := directory(f, dir, l[n]); ok {
			said[ino] = l[n]
		}
		n++
	}
	for _, ino := range slices.Sorted(maps.Keys(said)) {
		// One that is gone is no node any more, and its number is nobody else's.
		x := said[ino]
		f.Set(ino, api.Node{Mode: x.Mode, User: x.User, Group: x.Group, Time: x.Time})
	}
	return n, e
}

// directory tells which directory an entry that went well is.
func directory(f *tree.FS, dir int, x api.Entry) (int, bool) {
	if x.Kind != api.KDir && x.Kind != api.KDump {
		return 0, false
	}
	parts, e := name.Parts(x.Name)
	if e != api.OK {
		return 0, false
	}
	ino, e := walk.Down(f, dir, parts...)
	return ino, e == api.OK
}
