package tree

import "testing"

func TestIsName(t *testing.T) {
	for _, s := range []string{"a", "...", " ", "\uFFFD", "αβγδεζηθικλμ"} {
		if !isName(s) {
			t.Errorf("%q is a name", s)
		}
	}
	// The empty one is below every name, so in a list its order alone would refuse it.
	for _, s := range []string{"", ".", "..", "a/b", "\x1f", "\x7f", "\xff", "αβγδεζηθικλμν"} {
		if isName(s) {
			t.Errorf("%q is no name", s)
		}
	}
}

func TestSplit(t *testing.T) {
	for _, c := range [][3]string{{"", "", ""}, {"a", "", "a"}, {"/a", "/", "a"}, {"a/", "a/", ""}, {"a/b/c", "a/b/", "c"}} {
		if prefix, name := split(c[0]); prefix != c[1] || name != c[2] {
			t.Errorf("%q: %q, %q", c[0], prefix, name)
		}
	}
}
