package nar

import (
	"slices"
	"strings"
	"testing"
	"unicode/utf8"

	"nar/api"
)

// someNodes: right ones and wrong ones, out of which lists are made.
var someNodes = []api.Node{
	dir(""), file("", "x"), link("", ""),
	dir("a"), exec("a", "x"), dir("a/a"), file("a/b", ""), link("a/a/c", "x"),
	file("a.", ""), dir("b"), file("b/a", ""), file("/a", ""), file("b/\xff", ""),
}

// namesOf: the names of a path; the root has none.
func namesOf(path string) []string {
	if path == "" {
		return nil
	}
	return strings.Split(path, "/")
}

// isTreeByRule: the document's words on trees, held against the whole list at once: in the lists it is asked about no bound is passed.
func isTreeByRule(l []api.Node) bool {
	kinds := map[string]api.Kind{}
	for i, n := range l {
		names := namesOf(n.Path)
		if i == 0 != (len(names) == 0) || n.Kind == api.Link && n.Data == "" {
			return false
		}
		if i > 0 && kinds[strings.Join(names[:len(names)-1], "/")] != api.Dir {
			return false
		}
		if i > 0 && slices.Compare(namesOf(l[i-1].Path), names) >= 0 {
			return false
		}
		if slices.Contains(names, "") || !utf8.ValidString(n.Path) {
			return false
		}
		kinds[n.Path] = n.Kind
	}
	return len(l) > 0
}

// wrongByRule: the shortest beginning that is no tree ends there.
func wrongByRule(l []api.Node) int {
	for i := range l {
		if !isTreeByRule(l[:i+1]) {
			return i
		}
	}
	return 0
}

// readBack: nodes out of right bytes; it trusts them.
func readBack(s string) []api.Node {
	next := func() string {
		n := int(s[0])
		out := s[8 : 8+n]
		s = s[8+(n+7)/8*8:]
		return out
	}
	var out []api.Node
	var node func(path string)
	node = func(path string) {
		next()
		next()
		at := len(out)
		out = append(out, api.Node{Path: path, Kind: map[string]api.Kind{"file": api.File, "link": api.Link, "dir": api.Dir}[next()]})
		for w := next(); w != ")"; w = next() {
			switch w {
			case "exec":
				out[at].Kind = api.Exec
				next()
			case "data", "to":
				out[at].Data = next()
			case "entry":
				next()
				next()
				name := next()
				next()
				node(strings.TrimPrefix(path+"/"+name, "/"))
				next()
			}
		}
	}
	next()
	node("")
	if s != "" {
		return nil
	}
	return out
}

// everyList: calls f with all lists of at most n of someNodes; each has room behind its end.
func everyList(n int, f func(l []api.Node)) {
	l := make([]api.Node, 0, n+1)
	var more func()
	more = func() {
		f(l)
		if len(l) == n {
			return
		}
		for _, x := range someNodes {
			l = append(l, x)
			more()
			l = l[:len(l)-1]
		}
	}
	more()
}

func TestPackEveryShortList(t *testing.T) {
	trees := 0
	everyList(4, func(l []api.Node) {
		own := slices.Clone(l)
		s, e, at := Pack(l)
		if !slices.Equal(l, own) {
			t.Fatalf("P1: %v was changed to %v", own, l)
		}
		if !isTreeByRule(l) {
			if want := wrongByRule(l); s != "" || e != api.ErrTree || at != want {
				t.Fatalf("P2: %v: %q, %d, %d, want ErrTree at %d", l, s, e, at, want)
			}
			return
		}
		trees++
		if e != api.OK || at != 0 || !slices.Equal(readBack(s), l) {
			t.Fatalf("P2: %v: %q, %d, %d", l, s, e, at)
		}
	})
	if trees < 10 {
		t.Errorf("only %d of the lists are trees", trees)
	}
}

func TestPackLeavesTheRoomBehind(t *testing.T) {
	for _, right := range []bool{true, false} {
		whole := root(dir("a"), file("a/x", "1"), link("b", "a"), exec("c", "2"))
		if !right {
			whole[2].Path = "a/."
		}
		own := slices.Clone(whole)
		Pack(whole[:3])
		if !slices.Equal(whole, own) {
			t.Errorf("P1: %v was changed to %v", own, whole)
		}
	}
}

func TestPackKeepsNothing(t *testing.T) {
	l := root(file("a", "1"))
	first, _, _ := Pack(l)
	l[1] = link("b", "2")
	second, _, _ := Pack(l)
	l[1] = file("a", "1")
	if again, _, _ := Pack(l); again != first || second == first {
		t.Errorf("P1: %q, then %q, then %q", first, second, again)
	}
}

func TestEveryCallEnds(t *testing.T) {
	texts := []string{"", "a", "/", "\x00", "\xff\xff\xff\xff\xff\xff\xff\xff", strings.Repeat("\xff", 1_000_000), inBytes("nar-1"), inBytes("export-1", "end")}
	lists := [][]api.Node{nil, {}, {{}}, root(), numbered(100), nested(100), {{Path: texts[5], Kind: api.Dir, Data: texts[5]}}, root(file(strings.Repeat("a/", 500_000), ""))}
	for _, l := range lists {
		Pack(l)
		for _, s := range texts {
			Sum(s)
			r, st := NewReader(), NewStore()
			for range 2 {
				r.Feed(s)
				r.Close()
				st.Insert(s, l, texts)
				st.Insert("m", l, []string{s})
				st.Insert("m", root(), nil)
				st.Get(s)
				st.Paths()
				st.Closure(texts)
				st.Closure([]string{"m", s})
				st.Export(texts)
				st.Export([]string{"m", s})
				st.Import(nil)
				st.Import(texts)
				st.Import([]string{s, s})
				st.Import([]string{words("export-1 path m"), s})
				st.Import([]string{words("export-1"), headBytes("m", words("nar-1 ( type dir )")), s})
			}
		}
	}
}
