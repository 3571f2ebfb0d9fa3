package name

import (
	"slices"
	"strings"
	"testing"

	"portmanteau/api"
)

var long = strings.Repeat("n", 255)

func TestOk(t *testing.T) {
	for _, part := range []string{"a", "...", ".a", "a.", "..a", " ", "\xff\xfe", "a\nb", long, "\x01"} {
		if !Ok(part) {
			t.Errorf("%q", part)
		}
	}
	for _, part := range []string{"", ".", "..", "/", "a/b", "a/", "a\x00", "\x00", long + "n", "../a"} {
		if Ok(part) {
			t.Errorf("%q", part)
		}
	}
}

func TestParts(t *testing.T) {
	most := strings.Repeat(long+"/", 16)
	for _, c := range []struct {
		path string
		want []string
	}{
		{"a", []string{"a"}}, {"a/./b/", []string{"a", "b"}}, {".", nil}, {"./", nil}, {"./.", nil}, {"a//b", []string{"a", "b"}}, {".//a", []string{"a"}},
		{"a/...", []string{"a", "..."}}, {long, []string{long}}, {most, slices.Repeat([]string{long}, 16)}, {" a/b ", []string{" a", "b "}},
	} {
		if parts, e := Parts(c.path); e != api.OK || !slices.Equal(parts, c.want) {
			t.Errorf("%q: %q %v", c.path, parts, e)
		}
	}
	if len(most) != 4096 {
		t.Error(len(most))
	}
	for _, path := range []string{"", "/", "/a", "//", "..", "../a", "a/..", "a/../b", "./..", "a\x00", "\x00", "a/\x00/b", long + "n", "a/" + long + "n", most + "/", strings.Repeat("/", 4097), strings.Repeat("./", 2049)} {
		if parts, e := Parts(path); e != api.ErrPath || parts != nil {
			t.Errorf("%q: %q %v", path, parts, e)
		}
	}
}

func TestNoPathLeadsUp(t *testing.T) {
	letters := []string{"", ".", "..", "a", "b"}
	for i := range 5 * 5 * 5 * 5 {
		path := Join(letters[i%5], letters[i/5%5], letters[i/25%5], letters[i/125])
		parts, e := Parts(path)
		wrong := strings.HasPrefix(path, "/") || slices.Contains(strings.Split(path, "/"), "..")
		if (e == api.ErrPath) != wrong {
			t.Errorf("%q: %v", path, e)
		}
		for _, part := range parts {
			if !Ok(part) {
				t.Errorf("%q: %q", path, part)
			}
		}
	}
}

func TestJoin(t *testing.T) {
	if Join() != "" || Join("a") != "a" || Join("a", "b", "c") != "a/b/c" || Join("", "x", "") != "/x/" {
		t.Error(Join("", "x", ""))
	}
	if parts, _ := Parts(Join("a", "b")); !slices.Equal(parts, []string{"a", "b"}) {
		t.Error(parts)
	}
}
