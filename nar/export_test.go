package nar

import (
	"slices"
	"strings"
	"testing"

	"nar/api"
)

// entryBytes: of an export, written apart from the program's own way.
func entryBytes(path, tree string, refs ...string) string {
	return headBytes(path, tree, refs...) + inBytes("sum", Sum(tree))
}

// headBytes: an entry up to where a reference more may come, or the sum.
func headBytes(path, tree string, refs ...string) string {
	out := inBytes("path", path) + tree + inBytes("refs")
	for _, r := range refs {
		out += inBytes("ref", r)
	}
	return out
}

// leafBytes: a text is a path and its references; the tree is a leaf with the path, as storeOf puts it in.
func leafBytes(text string) string {
	l := refsOf(text)
	return entryBytes(l[0], inBytes("nar-1", "(", "type", "file", "data", l[0], ")"), l[1:]...)
}

// exportOf: leaves by their texts.
func exportOf(texts ...string) string {
	out := words("export-1")
	for _, text := range texts {
		out += leafBytes(text)
	}
	return out + words("end")
}

// wantExport: asked twice, and the store is as it was.
func wantExport(t *testing.T, s *Store, roots []string, want string) {
	t.Helper()
	before := stateOf(s)
	for range 2 {
		if x, e := s.Export(roots); x != want || e != api.OK {
			t.Errorf("P6: Export(%.100q) = %q, %d, want %q", roots, x, e, want)
		}
	}
	if after := stateOf(s); after != before {
		t.Errorf("P1: Export(%.100q): %s, was %s", roots, after, before)
	}
}

func TestExportOfNothing(t *testing.T) {
	for _, s := range []*Store{NewStore(), storeOf(t, "a", "b a"), fullStore(t)} {
		wantExport(t, s, nil, words("export-1 end"))
		wantExport(t, s, []string{}, words("export-1 end"))
	}
	if x, _ := NewStore().Export(nil); len(x) != 32 || !strings.HasPrefix(x, "\x08\x00\x00\x00\x00\x00\x00\x00export-1\x03\x00\x00\x00\x00\x00\x00\x00end") {
		t.Errorf("P6: %q", x)
	}
}

func TestExportOfWhatIsNotThere(t *testing.T) {
	s := storeOf(t, "z", "a z")
	for _, roots := range [][]string{{"q"}, {"q", "z"}, {"z", "q"}, {"a", "q", "z"}, {"q", "q"}, {""}, {"a", ""}, {"A"}, {"\xff"}, {"zz"}, {"export-1"}, {strings.Repeat("z", 1_000_000)}} {
		if x, e := s.Export(roots); x != "" || e != api.ErrNone {
			t.Errorf("P6: Export(%.100q) = %q, %d, want ErrNone", roots, x, e)
		}
	}
	if x, e := NewStore().Export([]string{"z"}); x != "" || e != api.ErrNone {
		t.Errorf("P6: of a store with nothing in it: %q, %d", x, e)
	}
}

func TestExportOfOnePath(t *testing.T) {
	for _, l := range someTrees() {
		tree := packed(t, l)
		s := storeOf(t, "a", "b a", "else b")
		wantInsert(t, s, "alone", l, nil, api.OK)
		wantInsert(t, s, "own", l, []string{"own"}, api.OK)
		wantInsert(t, s, "two", l, []string{"a", "b", "two"}, api.OK)
		wantExport(t, s, []string{"alone"}, words("export-1")+entryBytes("alone", tree)+words("end"))
		wantExport(t, s, []string{"own"}, words("export-1")+entryBytes("own", tree, "own")+words("end"))
		wantExport(t, s, []string{"two"}, words("export-1")+leafBytes("a")+leafBytes("b a")+entryBytes("two", tree, "a", "b", "two")+words("end"))
	}
}

// TestExportToTheByte: all of it written out, the sum too.
func TestExportToTheByte(t *testing.T) {
	s := NewStore()
	wantInsert(t, s, "m", root(), []string{"m"}, api.OK)
	tree := words("nar-1 ( type dir )")
	sum := Sum(tree)
	if len(sum) != 8 {
		t.Fatalf("P2: %q", sum)
	}
	want := words("export-1 path m nar-1 ( type dir ) refs ref m sum") + "\x08\x00\x00\x00\x00\x00\x00\x00" + sum + words("end")
	wantExport(t, s, []string{"m"}, want)
}

func TestExportOfManyPaths(t *testing.T) {
	s := storeOf(t, "m m", "z m", "b m", "a b z", "lone", "0 a lone")
	for _, c := range []struct {
		roots string
		want  []string
	}{
		{"m", []string{"m m"}}, {"m m m", []string{"m m"}},
		{"b", []string{"m m", "b m"}}, {"b m", []string{"m m", "b m"}}, {"m b", []string{"m m", "b m"}},
		{"z b", []string{"m m", "b m", "z m"}}, {"a", []string{"m m", "b m", "z m", "a b z"}},
		{"lone a", []string{"lone", "m m", "b m", "z m", "a b z"}}, {"z lone", []string{"lone", "m m", "z m"}},
		{"0", []string{"lone", "m m", "b m", "z m", "a b z", "0 a lone"}}, {"0 a b lone m z", []string{"lone", "m m", "b m", "z m", "a b z", "0 a lone"}},
	} {
		wantExport(t, s, refsOf(c.roots), exportOf(c.want...))
	}
}

func TestExportOfAFullStore(t *testing.T) {
	chain := []string{"9", "8 9", "7 8", "6 7", "5 6", "4 5", "3 4", "2 3", "1 2", "0 1"}
	wantExport(t, storeOf(t, chain...), []string{"0"}, exportOf(chain...))
	fan := []string{"a", "b", "c", "d", "e", "f", "g", "h", "i", "abcdefghijkl a b c d e f g h i"}
	wantExport(t, storeOf(t, fan...), []string{"abcdefghijkl"}, exportOf(fan...))
	wantExport(t, storeOf(t, "c", "b", "a"), []string{"c", "a", "b"}, exportOf("a", "b", "c"))
	many := slices.Repeat([]string{"b", "a"}, 50_000)
	wantExport(t, storeOf(t, "b", "a b"), many, exportOf("b", "a b"))
}

func TestExportReadsListsOnly(t *testing.T) {
	s := storeOf(t, "z", "a z", "b")
	roots := []string{"b", "a", "behind", "its end"}
	own := slices.Clone(roots)
	x, _ := s.Export(roots[:2])
	s.Export(roots)
	if !slices.Equal(roots, own) {
		t.Errorf("P1: the roots were changed: %q", roots)
	}
	roots[0], roots[1] = "z", "z"
	if again, _ := s.Export([]string{"b", "a"}); again != x || x != exportOf("b", "z", "a z") {
		t.Errorf("P1: %q, then %q", x, again)
	}
}

// export: by the document's words.
func (h shelf) export(t *testing.T, roots []string) (string, api.Errno) {
	paths, e := h.closure(roots)
	if e != api.OK {
		return "", e
	}
	out := words("export-1")
	for _, p := range paths {
		x := h[h.find(p)]
		out += entryBytes(p, packed(t, x.l), x.refs...)
	}
	return out + words("end"), api.OK
}

// shelfOf: as storeOf.
func shelfOf(t *testing.T, texts ...string) shelf {
	t.Helper()
	var h shelf
	for _, text := range texts {
		l := refsOf(text)
		if e := h.insert(l[0], leaf(l[0]), l[1:]); e != api.OK {
			t.Fatalf("%q: %d", text, e)
		}
	}
	return h
}

// put: the store that has what lies on the shelf.
func (h shelf) put(t *testing.T) *Store {
	t.Helper()
	s := NewStore()
	for _, x := range h {
		if e := s.Insert(x.path, x.l, x.refs); e != api.OK {
			t.Fatalf("P4: %q: %d", x.path, e)
		}
	}
	return s
}

// TestExportOfEverySmallStore: three paths, put in in every order, with all references that they may have, and all roots; and back into an empty store.
func TestExportOfEverySmallStore(t *testing.T) {
	everyOrder(refsOf("- a a0"), func(paths []string) {
		for bits := range 1 << 6 {
			var h shelf
			for i, p := range paths {
				refs := someOf(paths[:i+1], bits>>(i*(i+1)/2))
				slices.Sort(refs)
				h.insert(p, leaf(p), refs)
			}
			s := h.put(t)
			for some := range 1 << 3 {
				roots := someOf(paths, some)
				x, e := s.Export(roots)
				if want, _ := h.export(t, roots); x != want || e != api.OK {
					t.Fatalf("P6: %v: Export(%q) = %q, %d, want %q", h, roots, x, e, want)
				}
				wantBack(t, s, roots, x)
			}
		}
	})
}

// wantBack: the export of these roots, in an empty store, tells all that they lead to, and is exported alike.
func wantBack(t *testing.T, s *Store, roots []string, x string) {
	t.Helper()
	told, _ := s.Closure(roots)
	y := NewStore()
	if l, e, at := y.Import([]string{x}); !slices.Equal(l, told) || e != api.OK || at != 0 {
		t.Fatalf("P7: Import(%q) = %q, %d, %d, want %q", x, l, e, at, told)
	}
	for _, p := range told {
		want, _ := s.Get(p)
		wantEntry(t, y, p, want.Tree, want.Refs)
	}
	wantPaths(t, y, slices.Sorted(slices.Values(told))...)
	if again, e := y.Export(roots); again != x || e != api.OK {
		t.Fatalf("P6: %q was imported and exported as %q, %d", x, again, e)
	}
}
