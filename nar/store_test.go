package nar

import (
	"fmt"
	"slices"
	"strings"
	"testing"

	"nar/api"
)

// leaf: a tree of one file.
func leaf(data string) []api.Node { return []api.Node{file("", data)} }

// refsOf: out of a text with blanks between.
func refsOf(text string) []string { return strings.Fields(text) }

// storeOf: each text is a path and its references, put in one by one; the tree is a leaf with the path.
func storeOf(t *testing.T, texts ...string) *Store {
	t.Helper()
	s := NewStore()
	for _, text := range texts {
		l := refsOf(text)
		wantInsert(t, s, l[0], leaf(l[0]), l[1:], api.OK)
	}
	return s
}

// fullStore: of the paths p0 to p9.
func fullStore(t *testing.T) *Store {
	t.Helper()
	s := NewStore()
	for i := range api.MaxPaths {
		wantInsert(t, s, fmt.Sprintf("p%d", i), leaf(""), nil, api.OK)
	}
	return s
}

// stateOf: all that a store tells.
func stateOf(s *Store) string {
	paths := s.Paths()
	out := fmt.Sprintf("%q", paths)
	for _, p := range paths {
		x, e := s.Get(p)
		l, f := s.Closure([]string{p})
		out += fmt.Sprintf("; %q: %#v, %d, %q, %d", p, x, e, l, f)
	}
	l, e := s.Closure(paths)
	return out + fmt.Sprintf("; %q, %d", l, e)
}

// wantInsert: and with an error, or if it is there already, that nothing has changed.
func wantInsert(t *testing.T, s *Store, path string, l []api.Node, refs []string, want api.Errno) {
	t.Helper()
	before, there := stateOf(s), slices.Contains(s.Paths(), path)
	if e := s.Insert(path, l, refs); e != want {
		t.Errorf("P4: Insert(%.20q, %#v, %.20q) = %d, want %d", path, l, refs, e, want)
	}
	if after := stateOf(s); (want != api.OK || there) && after != before {
		t.Errorf("P1: Insert(%.20q): %s, was %s", path, after, before)
	}
	if want == api.OK {
		wantEntry(t, s, path, l, refs)
	}
}

func wantEntry(t *testing.T, s *Store, path string, l []api.Node, refs []string) {
	t.Helper()
	x, e := s.Get(path)
	if e != api.OK || !slices.Equal(x.Tree, l) || !slices.Equal(x.Refs, refs) || x.Sum != Sum(packed(t, l)) {
		t.Errorf("P5: Get(%.20q) = %#v, %d, want %#v, %q", path, x, e, l, refs)
	}
}

func wantNone(t *testing.T, s *Store, path string) {
	t.Helper()
	if x, e := s.Get(path); e != api.ErrNone || len(x.Tree)+len(x.Refs)+len(x.Sum) > 0 {
		t.Errorf("P5: Get(%.20q) = %#v, %d, want ErrNone", path, x, e)
	}
}

func wantPaths(t *testing.T, s *Store, want ...string) {
	t.Helper()
	if l := s.Paths(); !slices.Equal(l, want) {
		t.Errorf("P5: Paths() = %q, want %q", l, want)
	}
}

// wantClosure: asked twice, for nothing may be used up by it.
func wantClosure(t *testing.T, s *Store, roots, want string) {
	t.Helper()
	for range 2 {
		if l, e := s.Closure(refsOf(roots)); e != api.OK || !slices.Equal(l, refsOf(want)) {
			t.Errorf("P5: Closure(%s) = %q, %d, want %s", roots, l, e, want)
		}
	}
}

func TestStoreExample(t *testing.T) {
	s := storeOf(t, "m m", "z m", "b m", "a b z")
	wantClosure(t, s, "a", "m b z a")
	wantInsert(t, s, "m", leaf("another"), []string{"m"}, api.ErrHas)
	wantInsert(t, s, "m", leaf("m"), []string{"m"}, api.OK)
	wantPaths(t, s, "a", "b", "m", "z")
}

func TestInsertPaths(t *testing.T) {
	for _, p := range []string{"a", "z", "0", "9", "-", "--", "-a", "a-", "azbycx", "0123456789", "abcdefghijkl", "------------", "a0-", "m-1"} {
		s := NewStore()
		wantInsert(t, s, p, leaf("x"), nil, api.OK)
		wantPaths(t, s, p)
	}
	wrong := []string{"", "abcdefghijklm", "-------------", strings.Repeat("a", 1_000_000), "A", "Z", "aB", "a b", " a", "a ", "a/b", "/", ".", "..", "a.b", "a_b", "a\n", "\x00", "a\x00", "é", "aé", "α", "\xff", "a\xff", "１", "ａ"}
	for c := range 256 {
		if c < 'a' && c != '-' && (c < '0' || c > '9') || c > 'z' {
			wrong = append(wrong, string([]byte{byte(c)}), string([]byte{'a', byte(c)}), string([]byte{byte(c), '9'}), string([]byte{'a', byte(c), 'a'}))
		}
	}
	for _, p := range wrong {
		s := storeOf(t, "a", "b a")
		wantInsert(t, s, p, leaf("x"), nil, api.ErrPath)
		wantInsert(t, s, p, leaf("x"), []string{p}, api.ErrPath)
		wantNone(t, s, p)
	}
}

func TestInsertTrees(t *testing.T) {
	for _, l := range someTrees() {
		s := NewStore()
		wantInsert(t, s, "a", l, nil, api.OK)
		wantInsert(t, s, "a", l, nil, api.OK)
		wantPaths(t, s, "a")
	}
	for _, l := range [][]api.Node{nil, {}, {{}}, {link("", "")}, files("b", "a"), files("a/b"), numbered(api.MaxNodes + 1), nested(api.MaxDepth + 2), {file("", strings.Repeat("x", api.MaxData+1))}, {file("a", "")}} {
		s := storeOf(t, "a")
		wantInsert(t, s, "b", l, nil, api.ErrTree)
		wantInsert(t, s, "a", l, nil, api.ErrTree)
		wantNone(t, s, "b")
	}
}

func TestInsertReferences(t *testing.T) {
	s := storeOf(t, "-", "0", "a", "a-", "a0", "aa", "b")
	for _, c := range []struct {
		refs string
		want api.Errno
	}{
		{"b a", api.ErrOrder}, {"a a", api.ErrOrder}, {"a b b", api.ErrOrder}, {"a b a", api.ErrOrder}, {"aa a", api.ErrOrder}, {"a -", api.ErrOrder}, {"a 0", api.ErrOrder}, {"0 -", api.ErrOrder}, {"a0 a-", api.ErrOrder}, {"new new", api.ErrOrder}, {"q q", api.ErrOrder}, {"q b", api.ErrOrder}, {"new a", api.ErrOrder}, {"- 0 a a- a0 aa b a", api.ErrOrder}, {"a b A", api.ErrOrder},
		{"q", api.ErrRef}, {"a q", api.ErrRef}, {"Q a", api.ErrRef}, {"a new q", api.ErrRef}, {"1 new", api.ErrRef}, {"a c new", api.ErrRef}, {"A", api.ErrRef}, {"a aaaaaaaaaaaaaaaaaaaa", api.ErrRef}, {"ne", api.ErrRef}, {"new-", api.ErrRef}, {"- 0 a a- a0 aa b new q", api.ErrRef},
	} {
		wantInsert(t, s, "new", leaf(""), refsOf(c.refs), c.want)
	}
	wantInsert(t, s, "new", leaf(""), []string{""}, api.ErrRef)
	wantInsert(t, s, "new", leaf(""), []string{"", "a"}, api.ErrRef)
	wantInsert(t, s, "new", leaf(""), []string{"a", ""}, api.ErrOrder)
	wantInsert(t, s, "new", leaf(""), []string{"\x00", "a", "\xff"}, api.ErrRef)
	wantInsert(t, s, "new", leaf(""), []string{strings.Repeat("a", 1_000_000)}, api.ErrRef)
	wantNone(t, s, "new")
	for i, refs := range []string{"", "-", "- 0 a a- a0 aa b", "a b"} {
		s := storeOf(t, "-", "0", "a", "a-", "a0", "aa", "b")
		wantInsert(t, s, fmt.Sprintf("n%d", i), leaf(""), refsOf(refs), api.OK)
	}
}

func TestInsertReferencesByTheirBytes(t *testing.T) {
	many := make([]string, 100_000)
	for i := range many {
		many[i] = fmt.Sprintf("%06d", i)
	}
	s := storeOf(t, "a")
	wantInsert(t, s, "b", leaf(""), many, api.ErrRef)
	slices.Reverse(many)
	wantInsert(t, s, "b", leaf(""), many, api.ErrOrder)
}

func TestInsertPathThatRefersToItself(t *testing.T) {
	s := NewStore()
	wantInsert(t, s, "m", leaf("m"), []string{"m"}, api.OK)
	wantInsert(t, s, "m", leaf("m"), []string{"m"}, api.OK)
	wantInsert(t, s, "m", leaf("m"), nil, api.ErrHas)
	wantInsert(t, s, "n", leaf("n"), []string{"m", "n"}, api.OK)
	wantInsert(t, s, "a", leaf("a"), []string{"a", "m", "n"}, api.OK)
	wantInsert(t, s, "b", leaf("b"), []string{"c"}, api.ErrRef)
	wantInsert(t, s, "c", leaf("c"), []string{"b", "c"}, api.ErrRef)
	wantInsert(t, s, "b", leaf("b"), nil, api.OK)
	wantInsert(t, s, "b", leaf("b"), []string{"b"}, api.ErrHas)
	wantClosure(t, s, "m", "m")
	wantClosure(t, s, "a", "m n a")
	wantPaths(t, s, "a", "b", "m", "n")
}

func TestInsertPathThatIsThere(t *testing.T) {
	s := storeOf(t, "a", "b")
	own := root(dir("d"), exec("d/x", "run"), link("e", "d/x"))
	wantInsert(t, s, "p", own, []string{"a", "p"}, api.OK)
	wantInsert(t, s, "p", slices.Clone(own), []string{"a", "p"}, api.OK)
	for _, l := range [][]api.Node{
		root(dir("d"), exec("d/x", "ran"), link("e", "d/x")),
		root(dir("d"), file("d/x", "run"), link("e", "d/x")),
		root(dir("d"), exec("d/y", "run"), link("e", "d/x")),
		root(dir("d"), exec("d/x", "run"), link("f", "d/x")),
		root(dir("d"), exec("d/x", "run"), file("e", "d/x")),
		root(dir("d"), exec("d/x", "run"), link("e", "d/y")),
		root(dir("d"), exec("d/x", "run")),
		root(dir("d"), exec("d/x", "run"), link("e", "d/x"), file("f", "")),
		root(dir("d"), exec("x", "run")), root(), leaf(""),
	} {
		wantInsert(t, s, "p", l, []string{"a", "p"}, api.ErrHas)
		wantInsert(t, s, "p", l, nil, api.ErrHas)
	}
	for _, refs := range []string{"", "a", "p", "b", "b p", "a b", "a b p"} {
		wantInsert(t, s, "p", own, refsOf(refs), api.ErrHas)
	}
	wantEntry(t, s, "p", own, []string{"a", "p"})
	wantInsert(t, s, "a", leaf("a"), nil, api.OK)
	wantInsert(t, s, "a", leaf("a"), []string{}, api.OK)
	wantInsert(t, s, "q", leaf("a"), nil, api.OK)
}

func TestInsertIntoAFullStore(t *testing.T) {
	s := NewStore()
	for i := range api.MaxPaths {
		p := fmt.Sprintf("p%d", i)
		wantInsert(t, s, p, leaf(p), nil, api.OK)
		wantInsert(t, s, p, leaf(p), nil, api.OK)
		if n := len(s.Paths()); n != i+1 {
			t.Errorf("P4: %d paths, want %d", n, i+1)
		}
	}
	for range 2 {
		wantInsert(t, s, "full", leaf(""), nil, api.ErrFull)
		wantInsert(t, s, "full", leaf(""), []string{"full"}, api.ErrFull)
		wantInsert(t, s, "full", leaf("p0"), []string{"full", "p0", "p9"}, api.ErrFull)
		wantNone(t, s, "full")
		for i := range api.MaxPaths {
			p := fmt.Sprintf("p%d", i)
			wantInsert(t, s, p, leaf(p), nil, api.OK)
			wantInsert(t, s, p, leaf(""), nil, api.ErrHas)
			wantInsert(t, s, p, leaf(p), []string{p}, api.ErrHas)
		}
	}
}

// TestInsertWhichErrorComesFirst: all that can be wrong at once, in every choice of it.
func TestInsertWhichErrorComesFirst(t *testing.T) {
	refs := [2][2]string{{"p1 p2", "p1 q"}, {"p2 p1", "q p1"}} // by whether they fall, and whether one is unknown
	for i := range 1 << 5 {
		noPath, noTree, fall, unknown, has := i&1 > 0, i&2 > 0, i>>2&1, i>>3&1, i&16 > 0
		path, l, want := "new", leaf("another"), api.ErrFull
		if has {
			path, want = "p0", api.ErrHas
		}
		if unknown > 0 {
			want = api.ErrRef
		}
		if fall > 0 {
			want = api.ErrOrder
		}
		if noTree {
			l, want = nil, api.ErrTree
		}
		if noPath {
			path, want = strings.ToUpper(path), api.ErrPath
		}
		wantInsert(t, fullStore(t), path, l, refsOf(refs[fall][unknown]), want)
	}
}

func TestGet(t *testing.T) {
	s := storeOf(t, "a", "b a")
	for i, l := range someTrees() {
		if i%8 == 0 {
			s = storeOf(t, "a", "b a")
		}
		wantInsert(t, s, fmt.Sprintf("p%d", i%8), l, []string{"a", "b"}, api.OK)
		wantEntry(t, s, "a", leaf("a"), nil)
		wantEntry(t, s, "b", leaf("b"), []string{"a"})
	}
	for _, p := range []string{"", "c", "A", "a ", "aa", "-", "\x00", "\xff", "abcdefghijklm", strings.Repeat("a", 1_000_000)} {
		wantNone(t, s, p)
		wantNone(t, NewStore(), p)
	}
	x, _ := s.Get("a")
	if x.Sum != Sum(words("nar-1 ( type file data a )")) || len(x.Sum) != 8 {
		t.Errorf("P5: the sum of a is %x", x.Sum)
	}
}

func TestPaths(t *testing.T) {
	wantPaths(t, NewStore())
	rising := refsOf("- -- 0 00 9 a a- a0 aa z")
	for i := range len(rising) {
		turned := append(slices.Clone(rising[i:]), rising[:i]...)
		wantPaths(t, storeOf(t, turned...), rising...)
		slices.Reverse(turned)
		wantPaths(t, storeOf(t, turned...), rising...)
		wantPaths(t, storeOf(t, turned[:i]...), slices.Sorted(slices.Values(turned[:i]))...)
	}
}

func TestClosure(t *testing.T) {
	s := storeOf(t, "z", "y y z", "a z", "b a y", "c", "d b c", "0 c z", "-", "lone lone")
	for _, c := range [][2]string{
		{"", ""}, {"z", "z"}, {"z z z", "z"}, {"lone", "lone"}, {"lone lone", "lone"},
		{"y", "z y"}, {"b", "z a y b"}, {"d", "c z a y b d"}, {"d 0 d", "c z 0 a y b d"}, {"c z", "c z"}, {"z c", "c z"},
		{"z y a b c d 0 - lone", "- c lone z 0 a y b d"}, {"lone - 0 d c b a y z", "- c lone z 0 a y b d"}, {"a y", "z a y"}, {"y a", "z a y"}, {"z a", "z a"}, {"a z", "z a"},
	} {
		wantClosure(t, s, c[0], c[1])
	}
	for _, roots := range [][]string{{"q"}, {"q", "z"}, {"z", "q"}, {"z", "q", "d"}, {"q", "q"}, {""}, {"z", ""}, {"A"}, {"z", "Z"}, {"\xff"}, {"zz"}, {strings.Repeat("z", 1_000_000)}} {
		if l, e := s.Closure(roots); len(l) > 0 || e != api.ErrNone {
			t.Errorf("P5: Closure(%.100q) = %q, %d, want ErrNone", roots, l, e)
		}
	}
	if l, e := NewStore().Closure([]string{"z"}); len(l) > 0 || e != api.ErrNone {
		t.Errorf("P5: of a store with nothing in it: %q, %d", l, e)
	}
	for _, roots := range [][]string{nil, {}} {
		if l, e := NewStore().Closure(roots); len(l) > 0 || e != api.OK {
			t.Errorf("P5: of nothing: %q, %d", l, e)
		}
	}
}

func TestClosureOfManyRoots(t *testing.T) {
	s := storeOf(t, "b", "a b")
	many := slices.Repeat([]string{"a", "b"}, 100_000)
	if l, e := s.Closure(many); !slices.Equal(l, []string{"b", "a"}) || e != api.OK {
		t.Errorf("P5: %q, %d", l, e)
	}
	many[len(many)-1] = "c"
	if l, e := s.Closure(many); len(l) > 0 || e != api.ErrNone {
		t.Errorf("P5: the last is not there: %q, %d", l, e)
	}
}

func TestClosureOfChainsAndFans(t *testing.T) {
	wantClosure(t, storeOf(t, "9", "8 9", "7 8", "6 7", "5 6", "4 5", "3 4", "2 3", "1 2", "0 1"), "0", "9 8 7 6 5 4 3 2 1 0")
	wantClosure(t, storeOf(t, "0", "1 0", "2 1", "3 2", "4 3", "5 4", "6 5", "7 6", "8 7", "9 8"), "9 0", "0 1 2 3 4 5 6 7 8 9")
	wantClosure(t, storeOf(t, "8", "3", "7", "1", "5", "2", "6", "0", "4", "9 0 1 2 3 4 5 6 7 8"), "9", "0 1 2 3 4 5 6 7 8 9")
	wantClosure(t, storeOf(t, "z", "8 z", "3 z", "7 z", "1 z", "5 z", "2 z", "6 z", "0 z", "4 z"), "8 3 7 1 5 2 6 0 4", "z 0 1 2 3 4 5 6 7 8")
	wantClosure(t, storeOf(t, "8 8", "3 3", "7 7", "1 1", "5 3 5"), "8 7 5 1", "1 3 5 7 8")
}

func TestStoreReadsListsOnly(t *testing.T) {
	s := storeOf(t, "a", "b")
	whole := root(dir("d"), file("d/x", "1"), link("e", "d"), file("behind", "its end"))
	refs := []string{"a", "b", "p", "behind", "its end"}
	roots := []string{"p", "a", "p", "behind", "its end"}
	ownWhole, ownRefs, ownRoots := slices.Clone(whole), slices.Clone(refs), slices.Clone(roots)
	for range 2 {
		if e := s.Insert("p", whole[:4], refs[:3]); e != api.OK {
			t.Errorf("P4: %d", e)
		}
		s.Closure(roots[:3])
	}
	s.Insert("q", whole, refs[:2])
	s.Insert("q", whole[:4], refs)
	s.Closure(roots)
	if !slices.Equal(whole, ownWhole) || !slices.Equal(refs, ownRefs) || !slices.Equal(roots, ownRoots) {
		t.Errorf("P1: lists were changed: %#v, %q, %q", whole, refs, roots)
	}
}

func TestStoreKeepsNoLists(t *testing.T) {
	s := storeOf(t, "a", "b")
	l, refs := root(file("x", "1")), []string{"a", "b"}
	wantInsert(t, s, "p", l, refs, api.OK)
	before := stateOf(s)
	l[1], refs[0], refs[1] = link("y", "2"), "b", "q"
	if after := stateOf(s); after != before {
		t.Errorf("P1: %s, was %s", after, before)
	}
	wantInsert(t, s, "p", root(file("x", "1")), []string{"a", "b"}, api.OK)
	roots := []string{"p"}
	told, _ := s.Closure(roots)
	roots[0] = "q"
	if !slices.Equal(told, []string{"a", "b", "p"}) {
		t.Errorf("P1: a closure was changed: %q", told)
	}
}

// writeAll: into the list and into the room behind its end.
func writeAll[T any](l []T, x T) {
	l = l[:cap(l)]
	for i := range l {
		l[i] = x
	}
}

func TestStoreListsAreNew(t *testing.T) {
	s := storeOf(t, "z", "y y z", "a z", "b a y", "c", "d b c", "0 c z")
	wantInsert(t, s, "p", root(dir("d"), file("d/x", "1"), link("e", "d")), []string{"0", "a", "d"}, api.OK)
	before := stateOf(s)
	for range 2 {
		for _, p := range s.Paths() {
			first, _ := s.Get(p)
			second, _ := s.Get(p)
			writeAll(first.Tree, link("x", "x"))
			writeAll(first.Refs, "x")
			if fmt.Sprint(second) == fmt.Sprint(first) || !strings.Contains(before, fmt.Sprintf("%#v", second)) {
				t.Errorf("P1: two answers share a list: %#v", second)
			}
			told, _ := s.Closure([]string{p, "d"})
			again, _ := s.Closure([]string{p, "d"})
			writeAll(told, "x")
			if slices.Contains(again, "x") {
				t.Errorf("P1: two closures share a list: %q", again)
			}
		}
		paths, again := s.Paths(), s.Paths()
		writeAll(paths, "x")
		if slices.Contains(again, "x") {
			t.Errorf("P1: two lists of paths are one: %q", again)
		}
		if after := stateOf(s); after != before {
			t.Errorf("P1: %s, was %s", after, before)
		}
	}
}

// TestStoreWritesIntoNoListOfAnothers: what was told stays as it was, its room too, whatever is asked behind it.
func TestStoreWritesIntoNoListOfAnothers(t *testing.T) {
	s := storeOf(t, "a", "b a", "c b")
	x, _ := s.Get("c")
	paths := s.Paths()
	told, _ := s.Closure([]string{"c"})
	writeAll(x.Tree, file("", "mine"))
	writeAll(x.Refs, "mine")
	writeAll(paths, "mine")
	writeAll(told, "mine")
	wantInsert(t, s, "d", leaf("d"), []string{"a", "b", "c"}, api.OK)
	stateOf(s)
	for _, l := range [][]string{x.Refs, paths, told} {
		for _, p := range l[:cap(l)] {
			if p != "mine" {
				t.Errorf("P1: %q was written into a list that was handed out", p)
			}
		}
	}
	for _, n := range x.Tree[:cap(x.Tree)] {
		if n != file("", "mine") {
			t.Errorf("P1: %v was written into a tree that was handed out", n)
		}
	}
}

func TestStoresSideBySide(t *testing.T) {
	one, two, none := NewStore(), NewStore(), NewStore()
	for i := range api.MaxPaths {
		p := fmt.Sprintf("p%d", i)
		wantInsert(t, one, p, leaf("one"), nil, api.OK)
		if i == 5 {
			wantInsert(t, two, p, leaf("two"), []string{"p4"}, api.ErrRef)
		}
		if i%2 > 0 {
			wantInsert(t, two, p, leaf("two"), []string{p}, api.OK)
		}
	}
	wantInsert(t, one, "more", leaf(""), nil, api.ErrFull)
	wantInsert(t, two, "more", leaf(""), nil, api.OK)
	wantEntry(t, one, "p1", leaf("one"), nil)
	wantEntry(t, two, "p1", leaf("two"), []string{"p1"})
	wantNone(t, two, "p0")
	wantNone(t, one, "more")
	wantPaths(t, two, "more", "p1", "p3", "p5", "p7", "p9")
	wantPaths(t, none)
}

func TestStoresInSeveralGoroutines(t *testing.T) {
	want := stateOf(storeOf(t, "z", "y y z", "a z", "b a y", "c", "d b c", "0 c z"))
	states := make(chan string)
	for range 8 {
		go func() {
			s := NewStore()
			for _, text := range []string{"z", "y y z", "a z", "b a y", "c", "d b c", "0 c z"} {
				l := refsOf(text)
				s.Insert(l[0], leaf(l[0]), l[1:])
				s.Insert(l[0], leaf("another"), l[1:])
			}
			states <- stateOf(s)
		}()
	}
	for range 8 {
		if got := <-states; got != want {
			t.Errorf("P1: %s, want %s", got, want)
		}
	}
}

func TestStoresThatNobodyMade(t *testing.T) {
	for _, s := range []*Store{nil, {}} {
		if e := s.Insert("a", leaf(""), nil); e != api.ErrFull {
			t.Errorf("P1: Insert: %d", e)
		}
		wantInsert(t, s, "A", leaf(""), nil, api.ErrPath)
		wantInsert(t, s, "a", leaf(""), []string{"b"}, api.ErrRef)
		wantNone(t, s, "a")
		wantPaths(t, s)
		wantClosure(t, s, "", "")
		if l, e := s.Closure([]string{"a"}); len(l) > 0 || e != api.ErrNone {
			t.Errorf("P1: Closure: %q, %d", l, e)
		}
	}
}
