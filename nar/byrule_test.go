package nar

import (
	"encoding/binary"
	"slices"
	"strings"
	"testing"
	"unicode/utf8"

	"nar/api"
)

// byRule: reads all bytes at once, straight by the document's words, and panics with what it tells where something is wrong.
type byRule struct {
	s     string
	at    int // where the next string begins
	began int // where the one that was read last did
	nodes []api.Node
}

func (r *byRule) wrong(e api.Errno, at int) { panic(told{e: e, at: at}) }

func (r *byRule) next(most uint64) string {
	rest := r.s[r.at:]
	if len(rest) < 8 {
		r.wrong(api.ErrEnd, len(r.s))
	}
	n := binary.LittleEndian.Uint64([]byte(rest[:8]))
	if n > most {
		r.wrong(api.ErrSize, r.at)
	}
	if uint64(len(rest)) < 8+(n+7)/8*8 {
		r.wrong(api.ErrEnd, len(r.s))
	}
	out := rest[8 : 8+n]
	if inBytes(out) != rest[:8+(n+7)/8*8] {
		r.wrong(api.ErrPad, r.at)
	}
	r.began = r.at
	r.at += len(inBytes(out))
	return out
}

func (r *byRule) word(can ...string) string {
	s := r.next(8)
	if !slices.Contains(can, s) {
		r.wrong(api.ErrWord, r.began)
	}
	return s
}

func isNameByRule(s string) bool {
	n := utf8.RuneCountInString(s)
	bad := func(c rune) bool { return c < 32 || c == 127 || c == '/' }
	return n >= 1 && n <= 12 && utf8.ValidString(s) && s != "." && s != ".." && !strings.ContainsFunc(s, bad)
}

func (r *byRule) node(path string, above int) {
	r.word("(")
	if above > 5 {
		r.wrong(api.ErrDeep, r.began)
	}
	if len(r.nodes) >= 30 {
		r.wrong(api.ErrMany, r.began)
	}
	r.word("type")
	n := api.Node{Path: path}
	switch r.word("file", "link", "dir") {
	case "dir":
		r.nodes = append(r.nodes, dir(path))
		r.entries(path, above+1)
		return
	case "link":
		r.word("to")
		n.Kind, n.Data = api.Link, r.next(100)
		if n.Data == "" || strings.Contains(n.Data, "\x00") {
			r.wrong(api.ErrName, r.began)
		}
	default:
		n.Kind = api.File
		if r.word("data", "exec") == "exec" {
			n.Kind = api.Exec
			r.word("")
			r.word("data")
		}
		n.Data = r.next(100)
	}
	r.nodes = append(r.nodes, n)
	r.word(")")
}

func (r *byRule) entries(path string, above int) {
	for last := ""; r.word("entry", ")") == "entry"; {
		r.word("(")
		r.word("name")
		name := r.next(48)
		if !isNameByRule(name) {
			r.wrong(api.ErrName, r.began)
		}
		if name <= last {
			r.wrong(api.ErrOrder, r.began)
		}
		last = name
		r.word("node")
		r.node(strings.TrimPrefix(path+"/"+name, "/"), above)
		r.word(")")
	}
}

func readByRule(s string) (out told) {
	defer func() {
		if x := recover(); x != nil {
			out = x.(told)
		}
	}()
	r := &byRule{s: s}
	r.word("nar-1")
	r.node("", 0)
	if r.at < len(s) {
		r.wrong(api.ErrRest, r.at)
	}
	return told{l: r.nodes}
}

// wantByRule: of bytes that may be right or wrong.
func wantByRule(t *testing.T, s string, seen map[api.Errno]int) {
	t.Helper()
	want := readByRule(s)
	seen[want.e]++
	for _, n := range []int{len(s), 1 + len(s)%37} {
		if got := closeOf(t, cut(s, n)...); !got.same(want) {
			t.Fatalf("P3: %q in pieces of %d: %v, want %v", s, n, got, want)
		}
	}
	if want.e == api.OK {
		if again, e, _ := Pack(want.l); again != s || e != api.OK {
			t.Fatalf("P2: %v was read, and packed as %q, %d", want.l, again, e)
		}
	}
}

// wantSeen: a test that meets an error nowhere tells nothing of it.
func wantSeen(t *testing.T, seen map[api.Errno]int, l ...api.Errno) {
	t.Helper()
	for _, e := range l {
		if seen[e] == 0 {
			t.Errorf("error %d came nowhere", e)
		}
	}
}

// stringsOf: right bytes, string by string.
func stringsOf(s string) []string {
	var out []string
	for r := (&byRule{s: s}); r.at < len(s); {
		out = append(out, r.next(100))
	}
	return out
}

func TestReadWithEachByteChanged(t *testing.T) {
	seen := map[api.Errno]int{}
	for _, l := range [][]api.Node{{file("", "hello")}, {exec("", "run")}, {link("", "12345678")}, root(dir("b"), exec("b/x", "run"), link("c", "b/x"), file("é", ""))} {
		s := packed(t, l)
		for i := range len(s) {
			for _, b := range []byte{0, 1, 8, 9, '(', '.', '/', 'b', 0x7f, 0x80, 0xff, s[i] + 1, s[i] - 1, s[i] ^ 0x80} {
				wantByRule(t, s[:i]+string([]byte{b})+s[i+1:], seen)
			}
			wantByRule(t, s[:i]+s[i+1:], seen)
			wantByRule(t, s[:i]+"\x00"+s[i:], seen)
		}
	}
	wantSeen(t, seen, api.OK, api.ErrEnd, api.ErrSize, api.ErrPad, api.ErrWord, api.ErrName, api.ErrOrder)
}

func TestReadWithEachStringChanged(t *testing.T) {
	others := []string{"", "(", ")", "type", "file", "link", "dir", "data", "exec", "to", "entry", "name", "node", "nar-1", ".", "a/b", "zz", "\x00", "\xff", "123456789", strings.Repeat("é", 12), strings.Repeat("x", 49), strings.Repeat("x", 100), strings.Repeat("x", 101)}
	seen := map[api.Errno]int{}
	for _, tree := range someTrees()[:18] {
		l := stringsOf(packed(t, tree))
		for i := range l {
			wantByRule(t, inBytes(slices.Delete(slices.Clone(l), i, i+1)...), seen)
			for _, x := range others {
				changed := slices.Clone(l)
				changed[i] = x
				wantByRule(t, inBytes(changed...), seen)
				wantByRule(t, inBytes(slices.Insert(slices.Clone(l), i, x)...), seen)
			}
		}
	}
	wantSeen(t, seen, api.OK, api.ErrEnd, api.ErrSize, api.ErrWord, api.ErrName, api.ErrOrder, api.ErrRest)
}

// shape: the bytes of a root directory with n files, and what the letters say behind them: d opens a directory, f is a file, u ends a directory.
func shape(n int, letters string) string {
	out := words("nar-1 ( type dir")
	names := 0
	entry := func() string {
		names++
		return inBytes("entry", "(", "name", string(rune('A'+names)), "node", "(", "type")
	}
	for range n {
		out += entry() + words("file data _ ) )")
	}
	for _, c := range letters {
		switch c {
		case 'd':
			out += entry() + words("dir")
		case 'f':
			out += entry() + words("file data _ ) )")
		case 'u':
			out += words(") )")
		}
	}
	return out
}

func TestReadEveryShape(t *testing.T) {
	seen := map[api.Errno]int{}
	var more func(letters string, left int)
	more = func(letters string, left int) {
		if left > 0 {
			for _, c := range []string{"d", "f", "u"} {
				more(letters+c, left-1)
			}
			return
		}
		for _, n := range []int{0, 23} {
			s := shape(n, letters)
			wantByRule(t, s[:len(s)-16], seen) // if the letters end the root, there is a bracket too many
			wantByRule(t, s, seen)
		}
	}
	for n := range 8 {
		more("", n)
	}
	wantSeen(t, seen, api.OK, api.ErrEnd, api.ErrDeep, api.ErrMany, api.ErrRest)
}
