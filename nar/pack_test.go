package nar

import (
	"encoding/binary"
	"slices"
	"strings"
	"testing"

	"nar/api"
)

// inBytes: strings in bytes, written apart from the program's own way.
func inBytes(l ...string) string {
	var out []byte
	for _, s := range l {
		out = binary.LittleEndian.AppendUint64(out, uint64(len(s)))
		out = append(out, s...)
		out = append(out, "\x00\x00\x00\x00\x00\x00\x00"[:(len(s)+7)/8*8-len(s)]...)
	}
	return string(out)
}

// words: strings in bytes out of a text with blanks between; _ is the empty string.
func words(text string) string {
	l := strings.Fields(text)
	for i, s := range l {
		if s == "_" {
			l[i] = ""
		}
	}
	return inBytes(l...)
}

func file(path, data string) api.Node { return api.Node{Path: path, Kind: api.File, Data: data} }
func exec(path, data string) api.Node { return api.Node{Path: path, Kind: api.Exec, Data: data} }
func link(path, data string) api.Node { return api.Node{Path: path, Kind: api.Link, Data: data} }
func dir(path string) api.Node        { return api.Node{Path: path, Kind: api.Dir} }

// root: a directory with these nodes behind it.
func root(l ...api.Node) []api.Node { return append([]api.Node{dir("")}, l...) }

// files: a root with empty files of these names.
func files(names ...string) []api.Node {
	l := root()
	for _, s := range names {
		l = append(l, file(s, ""))
	}
	return l
}

// numbered: a root with as many files as make n nodes.
func numbered(n int) []api.Node {
	l := root()
	for i := 1; i < n; i++ {
		l = append(l, file(string(rune('A'+i)), ""))
	}
	return l
}

// nested: directories, each in the one ahead, n of them with the root.
func nested(n int) []api.Node {
	l := root()
	for i := 1; i < n; i++ {
		l = append(l, dir(strings.Repeat("/a", i)[1:]))
	}
	return l
}

func wantBytes(t *testing.T, what string, l []api.Node, want string) {
	t.Helper()
	if s, e, at := Pack(l); s != want || e != api.OK || at != 0 {
		t.Errorf("%.60q: %q, %d, %d, want %q", what, s, e, at, want)
	}
}

func wantRight(t *testing.T, what string, l []api.Node) {
	t.Helper()
	if s, e, at := Pack(l); s == "" || e != api.OK || at != 0 {
		t.Errorf("%.60q: %d bytes, %d, %d, want a tree in bytes", what, len(s), e, at)
	}
}

func wantWrong(t *testing.T, what string, l []api.Node, want int) {
	t.Helper()
	if s, e, at := Pack(l); s != "" || e != api.ErrTree || at != want {
		t.Errorf("%.60q: %q, %d, %d, want ErrTree at %d", what, s, e, at, want)
	}
}

func TestPackFirstExample(t *testing.T) {
	l := []api.Node{file("", "hello")}
	wantBytes(t, "hello", l, words("nar-1 ( type file data hello )"))
	s, _, _ := Pack(l)
	// Seven strings of 16 bytes each: the document's example says 104, against its own rule for a string in bytes.
	if len(s) != 7*16 || !strings.HasPrefix(s, "\x05\x00\x00\x00\x00\x00\x00\x00\x6e\x61\x72\x2d\x31\x00\x00\x00") {
		t.Errorf("%d bytes: %x", len(s), s)
	}
}

func TestPackOrdinaryTrees(t *testing.T) {
	for _, c := range []struct {
		l    []api.Node
		want string
	}{
		{[]api.Node{file("", "")}, "( type file data _ )"},
		{[]api.Node{exec("", "")}, "( type file exec _ data _ )"},
		{[]api.Node{exec("", "run")}, "( type file exec _ data run )"},
		{[]api.Node{link("", "/x/../y")}, "( type link to /x/../y )"},
		{root(), "( type dir )"},
		{root(dir("a")), "( type dir entry ( name a node ( type dir ) ) )"},
		{root(file("a", "12345678"), exec("b", "123456789"), link("c", "a")), "( type dir entry ( name a node ( type file data 12345678 ) ) entry ( name b node ( type file exec _ data 123456789 ) ) entry ( name c node ( type link to a ) ) )"},
		{root(dir("b"), exec("b/x", "run"), link("c", "b/x")), "( type dir entry ( name b node ( type dir entry ( name x node ( type file exec _ data run ) ) ) ) entry ( name c node ( type link to b/x ) ) )"},
		{root(dir("a"), dir("a/b"), file("a/b/c", "1"), file("z", "2")), "( type dir entry ( name a node ( type dir entry ( name b node ( type dir entry ( name c node ( type file data 1 ) ) ) ) ) ) entry ( name z node ( type file data 2 ) ) )"},
		{root(dir("a"), dir("a/a"), dir("a/b"), dir("b"), dir("b/a")), "( type dir entry ( name a node ( type dir entry ( name a node ( type dir ) ) entry ( name b node ( type dir ) ) ) ) entry ( name b node ( type dir entry ( name a node ( type dir ) ) ) ) )"},
	} {
		wantBytes(t, c.want, c.l, words("nar-1 "+c.want))
	}
}

func TestPackAnyBytesAsData(t *testing.T) {
	for _, s := range []string{"\x00", "\xff\xfe", ")", "\x00\x00\x00\x00\x00\x00\x00\x00", "two words", "\xce"} {
		wantBytes(t, "file", []api.Node{file("", s)}, inBytes("nar-1", "(", "type", "file", "data", s, ")"))
		wantBytes(t, "exec", []api.Node{exec("", s)}, inBytes("nar-1", "(", "type", "file", "exec", "", "data", s, ")"))
		if !strings.Contains(s, "\x00") {
			wantBytes(t, "link", []api.Node{link("", s)}, inBytes("nar-1", "(", "type", "link", "to", s, ")"))
		}
	}
}

func TestPackNames(t *testing.T) {
	for _, s := range []string{
		"a", " ", "~", "...", ".a", "..a", "a.", ". ", "\\", "(", "entry", "123456789012",
		"α", "αβγδεζηθικλμ", "\U0001F333", strings.Repeat("\U0010FFFF", 12), strings.Repeat("世", 12),
		"\u0080", "\u009f", "\uFFFD", "a\uFFFDb", "\uFEFF", "e\u0301", "\ud7ff", "\ue000",
	} {
		wantBytes(t, "name "+s, root(file(s, "")), inBytes("nar-1", "(", "type", "dir", "entry", "(", "name", s, "node", "(", "type", "file", "data", "", ")", ")", ")"))
		wantRight(t, "directory "+s, root(dir(s), file(s+"/"+s, "")))
	}
	for _, s := range []string{
		"", ".", "..", "1234567890123", "αβγδεζηθικλμν", strings.Repeat("\U0010FFFF", 13), strings.Repeat("a", 1_000_000),
		"\x00", "\x1f", "\x7f", "\n", "a\x00", "a\x1fb", "a\x7f", "\tb",
		"\xce", "a\xce", "\xceb", "\xb1", "\xff", "\xfe\xff", "\xc0\xaf", "\xc0\x80", "\xe0\x80\xaf", "\xed\xa0\x80", "\xed\xbf\xbf", "\xf4\x90\x80\x80", "\xf0\x9f\x8c", "\uFFFD\x80",
	} {
		wantWrong(t, "name "+s, root(dir("!"), file("!/"+s, "")), 2)
		wantWrong(t, "directory "+s, root(dir(s), file(s+"/a", "")), 1)
	}
}

func TestPackPaths(t *testing.T) {
	for _, s := range []string{"/", "//", "/a", "a/", "a//b", "/a/b", "b/a", "a/b/c", "./b", "a/.", "a/..", "../a", "a/./b", "//b"} {
		wantWrong(t, "path "+s, root(dir("a"), file(s, "")), 2)
	}
	for _, s := range []string{"a", "/", ".", "\x00"} {
		for _, k := range []api.Kind{api.File, api.Exec, api.Link, api.Dir} {
			l := []api.Node{{Path: s, Kind: k}}
			if k == api.Link {
				l[0].Data = "to"
			}
			wantWrong(t, "root of path "+s, l, 0)
		}
	}
	wantWrong(t, "a root once more", root(dir("")), 1)
	wantWrong(t, "a root behind another node", root(file("a", ""), file("", "")), 2)
}

func TestPackNoNodes(t *testing.T) {
	wantWrong(t, "nil", nil, 0)
	wantWrong(t, "empty", []api.Node{}, 0)
}

func TestPackKindsAndData(t *testing.T) {
	full, over := strings.Repeat("x", api.MaxData), strings.Repeat("x", api.MaxData+1)
	zeros := strings.Repeat("\x00", api.MaxData)
	for _, c := range []struct {
		kind  api.Kind
		data  string
		right bool
	}{
		{api.File, full, true}, {api.File, zeros, true}, {api.File, over, false}, {api.File, zeros + "\x00", false},
		{api.Exec, full, true}, {api.Exec, zeros, true}, {api.Exec, over, false}, {api.Exec, zeros + "\x00", false},
		{api.Link, "x", true}, {api.Link, full, true}, {api.Link, over, false}, {api.Link, "", false},
		{api.Link, "\x00", false}, {api.Link, "a\x00", false}, {api.Link, "\x00a", false}, {api.Link, "a\x00b", false}, {api.Link, full[1:] + "\x00", false},
		{api.Dir, "", true}, {api.Dir, "x", false}, {api.Dir, "\x00", false}, {api.Dir, over, false},
		{0, "", false}, {5, "", false}, {-1, "", false}, {1 << 40, "", false}, {0, "x", false}, {5, "x", false},
	} {
		alone := []api.Node{{Kind: c.kind, Data: c.data}}
		inRoot := root(file("a", ""), api.Node{Path: "b", Kind: c.kind, Data: c.data}, file("c", ""))
		if c.right {
			wantRight(t, "root", alone)
			wantRight(t, "in the root", inRoot)
		} else {
			wantWrong(t, "root", alone, 0)
			wantWrong(t, "in the root", inRoot, 2)
		}
	}
}

func TestPackOnlyDirectoriesHold(t *testing.T) {
	for _, n := range []api.Node{file("", ""), exec("", ""), link("", "a")} {
		wantWrong(t, "in what is no root directory", []api.Node{n, file("a", "")}, 1)
		n.Path = "a"
		wantWrong(t, "in what is no directory", root(n, file("a/b", "")), 2)
	}
}

func TestPackOrder(t *testing.T) {
	wantRight(t, "by bytes", files("!", "A", "B", "a", "a-", "a.", "ab", "b", "z", "é", "α", "世", "\U0001F333"))
	wantRight(t, "a. behind what is in a", root(dir("a"), file("a/x", ""), file("a.", "")))
	wantRight(t, "the same names in several", root(dir("a"), file("a/x", ""), dir("b"), file("b/x", ""), file("x", "")))
	wantRight(t, "each begins anew", root(dir("a"), dir("a/a"), file("a/a/z", ""), dir("a/b"), file("a/b/a", "")))
	wantRight(t, "below the directory's name", root(dir("m"), file("m/a", ""), file("n", "")))

	wantWrong(t, "b a", files("b", "a"), 2)
	wantWrong(t, "a a", files("a", "a"), 2)
	wantWrong(t, "a B", files("a", "B"), 2)
	wantWrong(t, "ab a", files("ab", "a"), 2)
	wantWrong(t, "10 9 8", files("10", "9", "8"), 3)
	wantWrong(t, "é z", files("é", "z"), 2)
	wantWrong(t, "a b a", files("a", "b", "a"), 3)
	wantWrong(t, "a directory twice", root(dir("a"), dir("a")), 2)
	wantWrong(t, "a directory and a file", root(dir("a"), file("a/x", ""), file("a", "")), 3)
	wantWrong(t, "a. ahead of a", root(file("a.", ""), dir("a")), 2)
	wantWrong(t, "further in", root(dir("a"), file("a/b", ""), file("a/a", "")), 3)
	wantWrong(t, "further in, behind a directory", root(dir("a"), dir("a/b"), file("a/b/c", ""), file("a/a", "")), 4)
}

func TestPackDirectoriesThatAreOver(t *testing.T) {
	wantWrong(t, "behind a file", root(dir("a"), file("b", ""), file("a/c", "")), 3)
	wantWrong(t, "behind a directory", root(dir("a"), file("a/x", ""), dir("b"), file("a/y", "")), 4)
	wantWrong(t, "further in", root(dir("a"), dir("a/b"), file("a/b/c", ""), file("a/c", ""), file("a/b/d", "")), 5)
	wantWrong(t, "an inner one of one that is over", root(dir("a"), dir("a/b"), file("c", ""), file("a/b/d", "")), 4)
	wantWrong(t, "ahead of its directory", root(file("a/b", ""), dir("a")), 1)
}

func TestPackDepth(t *testing.T) {
	most := nested(api.MaxDepth)
	in := strings.Repeat("a/", api.MaxDepth)
	for _, n := range []api.Node{file("", ""), exec("", ""), link("", "to"), dir("")} {
		n.Path = in[:len(in)-1]
		wantRight(t, "as deep as may be", append(slices.Clone(most), n, file("b", "")))
		n.Path = in + "a"
		wantWrong(t, "deeper", append(nested(api.MaxDepth+1), n), api.MaxDepth+1)
	}
	wantWrong(t, "much deeper", nested(20), api.MaxDepth+1)
}

func TestPackManyNodes(t *testing.T) {
	wantRight(t, "one below", numbered(api.MaxNodes-1))
	wantRight(t, "as many as may be", numbered(api.MaxNodes))
	wantWrong(t, "one more", numbered(api.MaxNodes+1), api.MaxNodes)
	wantWrong(t, "many more", numbered(api.MaxNodes+10), api.MaxNodes)
	l := numbered(api.MaxNodes + 1)
	l[api.MaxNodes-1].Path = "."
	wantWrong(t, "the last that may come is wrong", l, api.MaxNodes-1)
	wantWrong(t, "a hundred thousand", make([]api.Node, 100_000), 0)
}

func TestPackTellsTheFirst(t *testing.T) {
	l := root(file("a", ""), dir("b"), file("b/.", ""), file("a", ""), link("c", ""))
	wantWrong(t, "three that are wrong", l, 3)
	wantRight(t, "what stands ahead", l[:3])
	wantWrong(t, "wrong from the root on", []api.Node{link("", ""), file("b", ""), file("a", "")}, 0)
}

func TestSumExamples(t *testing.T) {
	for _, c := range []struct{ s, want string }{
		{"", "\x25\x23\x22\x84\xe4\x9c\xf2\xcb"},
		{"a", "\x8c\xec\x01\x86\x4c\xdc\x63\xaf"},
		{"foobar", "\xe8\x67\x39\xf7\x71\x41\x94\x85"},
	} {
		if got := Sum(c.s); got != c.want {
			t.Errorf("Sum(%q) = %x, want %x", c.s, got, c.want)
		}
	}
	if Sum("\xce\xb1") == Sum("\xb1\xce") || Sum("\xce") == Sum("\xb1") || Sum("\x00") == Sum("") {
		t.Error("different bytes, the same sum")
	}
}
