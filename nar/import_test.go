package nar

import (
	"encoding/binary"
	"fmt"
	"slices"
	"strings"
	"testing"

	"nar/api"
)

// imported: what Import answers.
type imported struct {
	l  []string
	e  api.Errno
	at int
}

func (x imported) same(y imported) bool { return slices.Equal(x.l, y.l) && x.e == y.e && x.at == y.at }

func (x imported) String() string { return fmt.Sprintf("%q, %d, %d", x.l, x.e, x.at) }

func importOf(s *Store, pieces ...string) imported {
	l, e, at := s.Import(pieces)
	return imported{l, e, at}
}

// wantImport: into a store of these entries, alike in all pieces. With an error, or nothing new, nothing has changed.
func wantImport(t *testing.T, what string, h shelf, s string, want imported) {
	t.Helper()
	before := stateOf(h.put(t))
	for _, pieces := range someCuts(s) {
		st := h.put(t)
		if got := importOf(st, pieces...); !got.same(want) {
			t.Errorf("P7: %.80q in %d pieces: %v, want %v", what, len(pieces), got, want)
			return
		}
		if after := stateOf(st); len(want.l) == 0 && after != before {
			t.Errorf("P7: %.80q in %d pieces: %s, was %s", what, len(pieces), after, before)
			return
		}
	}
}

// wantImportFault: the string at the head of rest, behind right bytes, is wrong. It counts with no bytes behind it, and with any.
func wantImportFault(t *testing.T, what string, h shelf, ahead, rest string, e api.Errno) {
	t.Helper()
	for _, behind := range []string{"", "x", words("end"), strings.Repeat("\xff", 300)} {
		wantImport(t, what, h, ahead+rest+behind, imported{e: e, at: len(ahead)})
	}
}

// wantAdded: the paths that come in, and that all the entries are there behind it.
func wantAdded(t *testing.T, h shelf, texts []string, added string) {
	t.Helper()
	s := exportOf(texts...)
	wantImport(t, strings.Join(texts, ", "), h, s, imported{l: refsOf(added)})
	for _, n := range []int{1, 10, len(s)} {
		st := h.put(t)
		importOf(st, cut(s, n)...)
		all := slices.Clone(h)
		for _, text := range texts {
			l := refsOf(text)
			if e := all.insert(l[0], leaf(l[0]), l[1:]); e != api.OK {
				t.Fatalf("P7: %q: %d", text, e)
			}
		}
		wantShelf(t, st, all)
		wantImport(t, "the same again", all, s, imported{})
	}
}

func TestImportExamples(t *testing.T) {
	wantImport(t, "nothing", nil, words("export-1 end"), imported{})
	ahead := words("export-1") + headBytes("m", packed(t, leaf("m")))
	wantImport(t, "a reference to what is not there", nil, ahead+words("ref q"), imported{e: api.ErrRef, at: len(ahead) + 16})
	wantImport(t, "a reference to what is there", shelfOf(t, "q"), ahead+words("ref q"), imported{e: api.ErrEnd, at: len(ahead) + 32})
	wantImport(t, "a wrong sum", nil, ahead+words("sum 12345678 end"), imported{e: api.ErrSum, at: len(ahead) + 16})
	texts := []string{"m m", "z m", "b m", "a b z"}
	s := storeOf(t, texts...)
	x, _ := s.Export([]string{"a"})
	wantImport(t, "into the store it came of", shelfOf(t, texts...), x, imported{})
	if got := importOf(s, x); !got.same(imported{}) {
		t.Errorf("P7: into the store it came of: %v", got)
	}
}

func TestImportIntoAnEmptyStore(t *testing.T) {
	wantAdded(t, nil, nil, "")
	wantAdded(t, nil, []string{"a"}, "a")
	wantAdded(t, nil, []string{"a a"}, "a")
	wantAdded(t, nil, []string{"abcdefghijkl"}, "abcdefghijkl")
	wantAdded(t, nil, []string{"m m", "b m", "z m", "a b z"}, "m b z a")
	wantAdded(t, nil, []string{"0", "1 0", "2 0 1", "3 0 1 2", "4 0 1 2 3", "5 0 1 2 3 4 5"}, "0 1 2 3 4 5")
	// In the order of the bytes, which need not be that of a closure.
	wantAdded(t, nil, []string{"z", "a", "m", "-"}, "z a m -")
	wantAdded(t, nil, []string{"z", "m z", "a", "b m", "aa a b"}, "z m a b aa")
}

func TestImportIntoAStoreThatHasSome(t *testing.T) {
	texts := []string{"m m", "b m", "z m", "a b z"}
	for _, c := range []struct {
		has   []string
		added string
	}{
		{[]string{"q"}, "m b z a"}, {[]string{"m m"}, "b z a"}, {[]string{"m m", "z m"}, "b a"}, {[]string{"m m", "b m"}, "z a"},
		{[]string{"q", "m m", "n q", "z m", "b m"}, "a"}, {[]string{"m m", "z m", "b m", "a b z", "c a"}, ""},
	} {
		wantAdded(t, shelfOf(t, c.has...), texts, c.added)
	}
	has := shelfOf(t, "q", "r q r")
	wantAdded(t, has, []string{"a q"}, "a")
	wantAdded(t, has, []string{"a a q r"}, "a")
	wantAdded(t, has, []string{"r q r", "a q r", "q", "b a q"}, "a b")
	wantAdded(t, has, []string{"r q r"}, "")
}

func TestImportTrees(t *testing.T) {
	for _, l := range someTrees() {
		tree := packed(t, l)
		s := words("export-1") + entryBytes("a", tree) + entryBytes("b", tree, "a", "b") + words("end")
		wantImport(t, "trees", nil, s, imported{l: []string{"a", "b"}})
		st := NewStore()
		importOf(st, cut(s, 29)...)
		wantEntry(t, st, "a", l, nil)
		wantEntry(t, st, "b", l, []string{"a", "b"})
		wantExport(t, st, []string{"b"}, s)
		wantBack(t, st, []string{"a", "b"}, s)
	}
}

// TestImportTreesOneBehindAnother: the bounds of each hold for it alone.
func TestImportTreesOneBehindAnother(t *testing.T) {
	trees := [][]api.Node{numbered(api.MaxNodes), nested(api.MaxDepth + 1), leaf("x"), root(), files("b"), files("a"), {link("", "x")}, numbered(api.MaxNodes)}
	s := words("export-1")
	var paths []string
	for i, l := range trees {
		paths = append(paths, fmt.Sprintf("p%d", i))
		s += entryBytes(paths[i], packed(t, l))
	}
	wantImport(t, "many trees", nil, s+words("end"), imported{l: paths})
	st := NewStore()
	importOf(st, s+words("end"))
	for i, l := range trees {
		wantEntry(t, st, paths[i], l, nil)
	}
}

// exportPlace: where a string must come in an export, how many bytes it may have, and which can come.
type exportPlace struct {
	ahead string
	most  int
	can   []string
}

// exportPlaces: those of the first entry, and of one behind another.
func exportPlaces(t *testing.T) []exportPlace {
	out := []exportPlace{{"", 8, []string{"export-1"}}}
	for _, first := range []string{words("export-1"), words("export-1") + leafBytes("b b")} {
		tree := packed(t, leaf("m"))
		m := headBytes("m", tree)
		out = append(out,
			exportPlace{first, 8, []string{"path", "end"}},
			exportPlace{first + words("path"), 12, []string{"m"}},
			exportPlace{first + words("path m") + tree, 8, []string{"refs"}},
			exportPlace{first + m, 8, []string{"ref", "sum"}},
			exportPlace{first + m + words("ref"), 12, []string{"m"}},
			exportPlace{first + m + words("ref m"), 8, []string{"ref", "sum"}},
			exportPlace{first + m + words("sum"), 8, []string{Sum(tree)}},
			exportPlace{first + m + words("ref m sum"), 8, []string{Sum(tree)}},
			exportPlace{first + entryBytes("m", tree), 8, []string{"path", "end"}},
			exportPlace{first + entryBytes("m", tree, "m"), 8, []string{"path", "end"}},
		)
		for _, p := range wordPlaces {
			can := strings.Fields(strings.ReplaceAll(p.can, "_", ""))
			if p.can == "_" {
				can = []string{""}
			}
			out = append(out, exportPlace{first + words("path m") + words(p.ahead), 8, can})
		}
	}
	return out
}

func TestImportWords(t *testing.T) {
	others := strings.Fields("export-1 export-2 path refs ref sum end nar-1 ( ) type file link dir data exec to entry name node _ m M EXPORT-1 paths pat end\x00 12345678 \x00")
	for _, p := range exportPlaces(t) {
		if p.most != 8 || len(p.can[0]) == 8 && p.ahead != "" { // no word, but a path, a reference or a sum
			continue
		}
		for _, s := range others {
			if s == "_" {
				s = ""
			}
			if !slices.Contains(p.can, s) {
				wantImportFault(t, p.ahead+s, nil, p.ahead, inBytes(s), api.ErrWord)
				continue
			}
			in := p.ahead + inBytes(s)
			if got := importOf(NewStore(), in); got.e != api.OK && !got.same(imported{e: api.ErrEnd, at: len(in)}) {
				t.Errorf("P7: %q: %v", in, got)
			}
		}
	}
}

func TestImportLengths(t *testing.T) {
	for _, p := range exportPlaces(t) {
		for _, n := range []uint64{uint64(p.most) + 1, 255, 256, 1 << 31, 1<<32 + 1, 1<<63 - 1, 1 << 63, 1<<64 - 8, 1<<64 - 1} {
			wantImportFault(t, p.ahead, nil, p.ahead, string(binary.LittleEndian.AppendUint64(nil, n)), api.ErrSize)
		}
		wantImportFault(t, p.ahead, nil, p.ahead, inBytes(strings.Repeat("x", p.most+1)), api.ErrSize)
		most := inBytes(strings.Repeat("x", p.most))
		for _, s := range []string{most[:len(most)-1], most[:8], "\xff\xff\xff\xff\xff\xff\xff", ""} {
			in := p.ahead + s
			if got, want := importOf(NewStore(), cut(in, 21)...), (imported{e: api.ErrEnd, at: len(in)}); !got.same(want) {
				t.Errorf("P7: %q: %v, want %v", in, got, want)
			}
		}
	}
}

func TestImportFilling(t *testing.T) {
	for _, p := range exportPlaces(t) {
		for _, can := range p.can {
			right := inBytes(can)
			for i := 8 + len(can); i < len(right); i++ {
				for _, b := range []byte{1, 0x80, 0xff} {
					wrong := []byte(right)
					wrong[i] = b
					wantImportFault(t, p.ahead, nil, p.ahead, string(wrong), api.ErrPad)
				}
			}
		}
	}
}

// TestImportWrongTrees: each error of a tree, in the first entry and behind another.
func TestImportWrongTrees(t *testing.T) {
	full := packed(t, numbered(api.MaxNodes))
	long := strings.Repeat("x", api.MaxData+1)
	for _, first := range []string{"", leafBytes("b b"), entryBytes("b", full), entryBytes("b", packed(t, files("z")))} {
		ahead := words("export-1") + first + words("path m")
		for _, c := range []struct {
			tree, wrong string
			e           api.Errno
		}{
			{"", words("nar-2"), api.ErrWord}, {"", words("("), api.ErrWord}, {"", words("refs"), api.ErrWord},
			{inDir(), inBytes("a/b"), api.ErrName}, {inDir(), inBytes(""), api.ErrName}, {inDir(), inBytes(strings.Repeat("x", 13)), api.ErrName}, {inDir(), inBytes(strings.Repeat("x", 49)), api.ErrSize},
			{inDir("b"), inBytes("a"), api.ErrOrder}, {inDir("b"), inBytes("b"), api.ErrOrder},
			{words("nar-1 ( type link to"), inBytes(""), api.ErrName}, {words("nar-1 ( type link to"), inBytes("a\x00"), api.ErrName}, {words("nar-1 ( type link to"), inBytes(long), api.ErrSize},
			{words("nar-1 ( type file data"), inBytes(long), api.ErrSize}, {words("nar-1 ( type file exec _ data"), inBytes(long), api.ErrSize},
			{down(api.MaxDepth + 1), words("("), api.ErrDeep}, {full[:len(full)-16] + words("entry ( name z node"), words("("), api.ErrMany},
			{packed(t, root()), words(")"), api.ErrWord}, {packed(t, root()), words("sum"), api.ErrWord}, {packed(t, root()), words("end"), api.ErrWord},
		} {
			wantImportFault(t, c.tree, nil, ahead+c.tree, c.wrong, c.e)
		}
	}
}

func TestImportPaths(t *testing.T) {
	for _, first := range []string{words("export-1"), words("export-1") + leafBytes("a")} {
		ahead := first + words("path")
		for _, p := range []string{"", "M", "a b", "a/b", ".", "a.b", "a_b", "\x00", "a\x00", "é", "\xff", "a\n", "----------Z-"} {
			wantImportFault(t, "path "+p, shelfOf(t, "a", "b"), ahead, inBytes(p), api.ErrPath)
		}
		for _, p := range []string{"b", "path", "-", "abcdefghijkl"} {
			in := ahead + inBytes(p)
			wantImport(t, "path "+p, shelfOf(t, "a", "b"), in, imported{e: api.ErrEnd, at: len(in)})
		}
		wantImportFault(t, "13 bytes", nil, ahead, inBytes("abcdefghijklm"), api.ErrSize)
		wantImportFault(t, "13 bytes, no path", nil, ahead, inBytes("ABCDEFGHIJKLM"), api.ErrSize)
	}
	for c := range 256 {
		p := string([]byte{byte(c)})
		s := words("export-1") + entryBytes(p, packed(t, root())) + words("end")
		want := imported{e: api.ErrPath, at: 32}
		if pathByRule.MatchString(p) {
			want = imported{l: []string{p}}
		}
		if got := importOf(NewStore(), s); !got.same(want) {
			t.Errorf("P7: path %q: %v, want %v", p, got, want)
		}
	}
}

func TestImportPathsThatHaveCome(t *testing.T) {
	for _, has := range []shelf{nil, shelfOf(t, "a"), shelfOf(t, "a", "b a"), shelfOf(t, "b", "q")} {
		wantImportFault(t, "a a", has, words("export-1")+leafBytes("a")+words("path"), words("a"), api.ErrOrder)
		if has.find("q") >= 0 {
			continue
		}
		wantImportFault(t, "a b a", has, words("export-1")+leafBytes("a")+leafBytes("b a")+words("path"), words("a"), api.ErrOrder)
		wantImportFault(t, "a b b", has, words("export-1")+leafBytes("a")+leafBytes("b a")+words("path"), words("b"), api.ErrOrder)
	}
	wantAdded(t, nil, []string{"b", "a"}, "b a")
	wantAdded(t, nil, []string{"aa", "a", "a-"}, "aa a a-")
}

func TestImportReferences(t *testing.T) {
	has := shelfOf(t, "q", "s q")
	ahead := words("export-1") + leafBytes("a") + leafBytes("c a q")
	head := func(refs ...string) string {
		return ahead + headBytes("m", packed(t, leaf("m")), refs...) + words("ref")
	}
	for _, c := range []struct {
		refs, wrong string
		e           api.Errno
	}{
		{"a", "a", api.ErrOrder}, {"c", "a", api.ErrOrder}, {"a m", "m", api.ErrOrder}, {"m", "c", api.ErrOrder}, {"q", "m", api.ErrOrder}, {"a q", "c", api.ErrOrder}, {"a", "0", api.ErrOrder}, {"a", "-", api.ErrOrder}, {"a", "A", api.ErrOrder}, {"a", "", api.ErrOrder}, {"q s", "b", api.ErrOrder}, {"m", "\x00", api.ErrOrder},
		{"", "b", api.ErrRef}, {"", "", api.ErrRef}, {"", "A", api.ErrRef}, {"", "\xff", api.ErrRef}, {"a", "b", api.ErrRef}, {"a c", "d", api.ErrRef}, {"a c m", "n", api.ErrRef}, {"a c m q s", "t", api.ErrRef}, {"", "mm", api.ErrRef}, {"", "abcdefghijkl", api.ErrRef}, {"a", "\xff", api.ErrRef}, {"q", "r", api.ErrRef},
		{"", "abcdefghijklm", api.ErrSize}, {"a", "abcdefghijklm", api.ErrSize}, {"m", "AAAAAAAAAAAAA", api.ErrSize},
	} {
		wantImportFault(t, c.refs+" then "+c.wrong, has, head(refsOf(c.refs)...), inBytes(c.wrong), c.e)
	}
	for _, refs := range []string{"", " a", " c", " m", " q", " s", " a c m q s", " a m", " c s", " m q"} {
		wantAdded(t, has, []string{"a", "c a q", "m" + refs}, "a c m")
	}
}

func TestImportReferencesToWhatComesBehind(t *testing.T) {
	tree := packed(t, leaf("m"))
	s := words("export-1") + headBytes("m", tree) + words("ref")
	behind := inBytes("z", "sum", Sum(tree)) + leafBytes("z") + words("end")
	wantImport(t, "z comes behind", nil, s+behind, imported{e: api.ErrRef, at: len(s)})
	wantImport(t, "z comes behind, and is in the store", shelfOf(t, "z"), s+behind, imported{l: []string{"m"}})
	first := words("export-1") + headBytes("a", packed(t, leaf("a"))) + words("ref")
	wantImport(t, "round", nil, first+inBytes("b", "sum", Sum(packed(t, leaf("a"))))+leafBytes("b a")+words("end"), imported{e: api.ErrRef, at: len(first)})
}

// TestImportReferencesThatAnotherHas: what one entry refers to does not count for the next.
func TestImportReferencesThatAnotherHas(t *testing.T) {
	wantAdded(t, nil, []string{"z", "b z", "a z", "c a b z", "d a"}, "z b a c d")
	st := NewStore()
	importOf(st, exportOf("z", "b z", "a z", "c a b z", "d a"))
	wantClosure(t, st, "d", "z a d")
	wantClosure(t, st, "c", "z a b c")
}

func TestImportSums(t *testing.T) {
	for _, l := range [][]api.Node{leaf("m"), root(), root(dir("b"), exec("b/x", "run"), link("c", "b/x"))} {
		tree := packed(t, l)
		right := Sum(tree)
		var wrong []string
		for i := range 64 {
			b := []byte(right)
			b[i/8] ^= 1 << (i % 8)
			wrong = append(wrong, string(b))
		}
		turned := []byte(right)
		slices.Reverse(turned)
		wrong = append(wrong, string(turned), Sum(""), Sum(tree[16:]), Sum(tree+words("refs")), Sum(words("path m")+tree), "", "12345678", "\x00\x00\x00\x00\x00\x00\x00\x00")
		for i := range 8 {
			wrong = append(wrong, right[:i])
		}
		ahead := words("export-1") + leafBytes("a") + headBytes("m", tree, "a") + words("sum")
		for _, s := range wrong {
			wantImportFault(t, "sum "+s, shelfOf(t, "q"), ahead, inBytes(s), api.ErrSum)
		}
		wantImportFault(t, "nine bytes", nil, ahead, inBytes(right+"\x00"), api.ErrSize)
		wantImport(t, "the right one", nil, ahead+inBytes(right, "end"), imported{l: []string{"a", "m"}})
	}
}

// TestImportSumOfAnotherEntry: each sum is of its own tree.
func TestImportSumOfAnotherEntry(t *testing.T) {
	one, two := packed(t, leaf("one")), packed(t, leaf("two"))
	ahead := words("export-1") + entryBytes("a", one) + headBytes("b", two) + words("sum")
	wantImportFault(t, "of the one ahead", nil, ahead, inBytes(Sum(one)), api.ErrSum)
	wantImportFault(t, "of both", nil, ahead, inBytes(Sum(one+two)), api.ErrSum)
	first := words("export-1") + headBytes("a", one) + words("sum")
	wantImportFault(t, "of the one behind", nil, first, inBytes(Sum(two)), api.ErrSum)
}

func TestImportWhatTheStoreHasAsAnother(t *testing.T) {
	own := root(dir("d"), exec("d/x", "run"), link("e", "d/x"))
	has := shelfOf(t, "a", "b")
	has.insert("p", own, []string{"a", "p"})
	for _, first := range []string{"", leafBytes("a"), leafBytes("new a") + leafBytes("b")} {
		wrong := func(l []api.Node, refs string) {
			t.Helper()
			tree := packed(t, l)
			ahead := words("export-1") + first + headBytes("p", tree, refsOf(refs)...) + words("sum")
			wantImportFault(t, "p "+refs, has, ahead, inBytes(Sum(tree)), api.ErrHas)
		}
		for _, l := range [][]api.Node{root(dir("d"), exec("d/x", "ran"), link("e", "d/x")), root(dir("d"), file("d/x", "run"), link("e", "d/x")), root(dir("d"), exec("d/y", "run"), link("e", "d/x")), root(dir("d")), root(), leaf("")} {
			wrong(l, "a p")
			wrong(l, "")
		}
		for _, refs := range []string{"", "a", "p", "b", "b p", "a b", "a b p"} {
			wrong(own, refs)
		}
	}
	s := words("export-1") + entryBytes("p", packed(t, own), "a", "p") + words("end")
	wantImport(t, "just so", has, s, imported{})
	wantImport(t, "just so, and more", has, s[:len(s)-16]+leafBytes("new p")+words("end"), imported{l: []string{"new"}})
}

// numberedTexts: paths n0 to n9, from one number up to another.
func numberedTexts(from, to int) []string {
	var out []string
	for i := from; i < to; i++ {
		out = append(out, fmt.Sprintf("n%d", i))
	}
	return out
}

// TestImportIntoAStoreThatGetsFull: for each number that is there already, of which some come again.
func TestImportIntoAStoreThatGetsFull(t *testing.T) {
	for there := range api.MaxPaths + 1 {
		has := shelfOf(t, numberedTexts(0, there)...)
		for again := range there + 1 {
			fits := numberedTexts(there-again, api.MaxPaths)
			wantAdded(t, has, fits, strings.Join(numberedTexts(there, api.MaxPaths), " "))
			tree := packed(t, leaf("more"))
			ahead := words("export-1")
			for _, text := range fits {
				ahead += leafBytes(text)
			}
			ahead += headBytes("more", tree) + words("sum")
			wantImportFault(t, "one more", has, ahead, inBytes(Sum(tree)), api.ErrFull)
		}
	}
}

// TestImportIntoAFullStore: what is there may still come, ahead of what is too many and behind what fits.
func TestImportIntoAFullStore(t *testing.T) {
	texts := numberedTexts(0, api.MaxPaths)
	has := shelfOf(t, texts...)
	wantAdded(t, has, texts, "")
	slices.Reverse(texts)
	wantAdded(t, has, texts, "")
	wantAdded(t, has, nil, "")
	nine := shelfOf(t, numberedTexts(0, 9)...)
	wantAdded(t, nine, append([]string{"new"}, numberedTexts(0, 9)...), "new")
	wantAdded(t, nine, append(numberedTexts(0, 9), "new n0 n8 new"), "new")
	tree := packed(t, leaf("n10"))
	ahead := words("export-1") + leafBytes("n9") + leafBytes("n0") + headBytes("n10", tree, "n0", "n9") + words("sum")
	wantImportFault(t, "the eleventh", nine, ahead, inBytes(Sum(tree)), api.ErrFull)
	wantImport(t, "another tree of what is there, when it is full", has, words("export-1")+entryBytes("n0", tree)+words("end"), imported{e: api.ErrHas, at: len(words("export-1")+headBytes("n0", tree)) + 16})
}

// TestImportWhichErrorComesFirst: at one string, all that can be wrong with it at once.
func TestImportWhichErrorComesFirst(t *testing.T) {
	full := shelfOf(t, numberedTexts(0, api.MaxPaths)...)
	tree := packed(t, leaf("another"))
	path := words("export-1 path")
	wantImport(t, "a path's length ahead of bytes that are not there", full, path+"\x0d\x00\x00\x00\x00\x00\x00\x00", imported{e: api.ErrSize, at: 32})
	wantImport(t, "bytes that are not there ahead of the path", full, path+"\x02\x00\x00\x00\x00\x00\x00\x00N0\x00\x00\x01\x00\x00", imported{e: api.ErrEnd, at: 47})
	wantImportFault(t, "filling ahead of the path", full, path, "\x02\x00\x00\x00\x00\x00\x00\x00N0\x00\x00\x01\x00\x00\x00", api.ErrPad)
	wantImportFault(t, "no path ahead of what its tree is", full, path, words("N0 nar-2"), api.ErrPath)
	come := words("export-1") + leafBytes("n0") + words("path")
	wantImportFault(t, "filling ahead of a path that has come", full, come, "\x02\x00\x00\x00\x00\x00\x00\x00n0\x01\x00\x00\x00\x00\x00", api.ErrPad)
	wantImportFault(t, "a path that has come, ahead of its tree", full, come, inBytes("n0")+tree, api.ErrOrder)
	ref := words("export-1") + headBytes("n0", tree, "n5") + words("ref")
	wantImportFault(t, "a length ahead of the order", full, ref, inBytes("aaaaaaaaaaaaa"), api.ErrSize)
	wantImportFault(t, "filling ahead of the order", full, ref, "\x02\x00\x00\x00\x00\x00\x00\x00n0\x01\x00\x00\x00\x00\x00", api.ErrPad)
	wantImportFault(t, "the order ahead of what is not there", full, ref, inBytes("a"), api.ErrOrder)
	wantImportFault(t, "the order ahead of what is no path", full, ref, inBytes("A"), api.ErrOrder)
	wantImportFault(t, "a reference ahead of the sum", full, ref, inBytes("q", "sum", "12345678"), api.ErrRef)
	for _, p := range []string{"n0", "new"} {
		e := api.ErrHas
		if p == "new" {
			e = api.ErrFull
		}
		sum := words("export-1") + headBytes(p, tree, "n5") + words("sum")
		wantImportFault(t, "a length ahead of the sum", full, sum, inBytes("123456789"), api.ErrSize)
		wantImportFault(t, "a filling ahead of the sum", full, sum, "\x07\x00\x00\x00\x00\x00\x00\x001234567\x01", api.ErrPad)
		wantImport(t, "bytes that are not there ahead of the sum", full, sum+inBytes("12345678")[:15], imported{e: api.ErrEnd, at: len(sum) + 15})
		wantImportFault(t, "the sum ahead of what is there", full, sum, inBytes("12345678"), api.ErrSum)
		wantImportFault(t, "what is there ahead of a word behind it", full, sum, inBytes(Sum(tree), "ending"), e)
	}
}

// TestImportTheFirstFromTheLeft: an error further on does not count, whatever it is.
func TestImportTheFirstFromTheLeft(t *testing.T) {
	ten := exportOf(numberedTexts(0, api.MaxPaths)...)
	ten = ten[:len(ten)-16]
	for _, c := range []struct {
		has  shelf
		e    api.Errno
		at   int
		text string
	}{
		{shelfOf(t, "a"), api.ErrFull, len(ten) - 16, "n9 is too many"},
		{nil, api.ErrPath, len(ten) + 16, "A is no path"},
	} {
		wantImport(t, c.text, c.has, ten+inBytes("path", "A"), imported{e: c.e, at: c.at})
	}
	has := shelf{{"n3", leaf("another"), nil}}
	at := len(words("export-1")+leafBytes("n0")+leafBytes("n1")+leafBytes("n2")+headBytes("n3", packed(t, leaf("n3")))) + 16
	wantImport(t, "n3 is another", has, ten+inBytes("path", "A"), imported{e: api.ErrHas, at: at})
	wantImport(t, "n3 is another", has, ten+words("end")+"x", imported{e: api.ErrHas, at: at})
	wantImport(t, "bytes are left", nil, ten+words("end")+"x", imported{e: api.ErrRest, at: len(ten) + 16})
}

func TestImportBytesThatEndAnywhere(t *testing.T) {
	tree := packed(t, root(dir("b"), exec("b/x", "run"), link("c", "b/x")))
	s := words("export-1") + leafBytes("a a") + entryBytes("m", tree, "a", "m") + words("end")
	for _, has := range []shelf{nil, shelfOf(t, "a a", "q")} {
		before := stateOf(has.put(t))
		for n := range len(s) {
			for _, size := range []int{7, 64, n + 1} {
				st := has.put(t)
				if got := importOf(st, cut(s[:n], size)...); !got.same(imported{e: api.ErrEnd, at: n}) {
					t.Fatalf("P7: %d bytes in pieces of %d: %v", n, size, got)
				}
				if after := stateOf(st); after != before {
					t.Fatalf("P7: %d bytes: %s, was %s", n, after, before)
				}
			}
		}
	}
}

func TestImportBytesLeft(t *testing.T) {
	for _, texts := range [][]string{nil, {"a a"}, {"a a", "b a"}} {
		s := exportOf(texts...)
		for _, rest := range []string{"\x00", "x", "\x00\x00\x00\x00\x00\x00\x00\x00", words("end"), words("path"), s, strings.Repeat("\xff", 1000)} {
			for _, has := range []shelf{nil, shelfOf(t, "a a"), shelfOf(t, "a a", "b a", "c")} {
				wantImport(t, "bytes more", has, s+rest, imported{e: api.ErrRest, at: len(s)})
			}
		}
	}
}

func TestImportPieces(t *testing.T) {
	for _, pieces := range [][]string{nil, {}, {""}, {"", "", ""}} {
		if got := importOf(NewStore(), pieces...); !got.same(imported{e: api.ErrEnd}) {
			t.Errorf("P7: %q: %v", pieces, got)
		}
	}
	s := exportOf("m m", "b m", "z m", "a b z")
	want := imported{l: refsOf("m b z a")}
	for i := range len(s) + 1 {
		for _, pieces := range [][]string{{s[:i], s[i:]}, {s[:i], "", s[i:]}, cut(s, i+1)} {
			if got := importOf(NewStore(), pieces...); !got.same(want) {
				t.Errorf("P7: cut at %d: %v, want %v", i, got, want)
			}
		}
	}
	many := slices.Repeat([]string{""}, 100_000)
	if got := importOf(NewStore(), append(many, cut(s, 1)...)...); !got.same(want) {
		t.Errorf("P7: many empty pieces: %v", got)
	}
}

// TestImportWholeOrNotAtAll: whatever is wrong at the end, none of what came ahead is in the store, and it can come again.
func TestImportWholeOrNotAtAll(t *testing.T) {
	s := exportOf("m m", "b m", "z m", "a b z")
	ahead := s[:len(s)-16]
	for _, wrong := range []string{"", "x", words("ends"), words("path A"), words("path m"), words("path q nar-2"), headBytes("q", packed(t, root())) + words("ref r"), headBytes("q", packed(t, root())) + words("sum x"), words("end end")} {
		st := storeOf(t, "q", "r q")
		before := stateOf(st)
		for range 3 {
			if got := importOf(st, ahead+wrong); got.e == api.OK || len(got.l) > 0 {
				t.Errorf("P7: %q: %v", wrong, got)
			}
			if after := stateOf(st); after != before {
				t.Errorf("P7: %q: %s, was %s", wrong, after, before)
			}
		}
		wantNone(t, st, "m")
		wantInsert(t, st, "n", leaf("n"), []string{"m"}, api.ErrRef)
		if got := importOf(st, s); !got.same(imported{l: refsOf("m b z a")}) {
			t.Errorf("P7: %q, then the whole: %v", wrong, got)
		}
		wantPaths(t, st, "a", "b", "m", "q", "r", "z")
		wantInsert(t, st, "n", leaf("n"), []string{"m"}, api.OK)
	}
}

// TestImportThatIsRefusedTakesNoRoom: nor is any of it counted later.
func TestImportThatIsRefusedTakesNoRoom(t *testing.T) {
	st := storeOf(t, "q")
	ten := exportOf(numberedTexts(0, api.MaxPaths)...)
	for range 3 {
		if got := importOf(st, ten); got.e != api.ErrFull {
			t.Errorf("P7: %v", got)
		}
	}
	for i := range api.MaxPaths - 1 {
		wantInsert(t, st, fmt.Sprintf("x%d", i), leaf("x"), nil, api.OK)
	}
	wantInsert(t, st, "one-more", leaf("x"), nil, api.ErrFull)
}

func TestImportReadsListsOnly(t *testing.T) {
	s := exportOf("m m", "b m")
	pieces := append(cut(s, 50), "behind", "its end")
	own := slices.Clone(pieces)
	st := NewStore()
	if got := importOf(st, pieces[:len(pieces)-2]...); !got.same(imported{l: refsOf("m b")}) {
		t.Errorf("P7: %v", got)
	}
	importOf(st, pieces...)
	if !slices.Equal(pieces, own) {
		t.Errorf("P1: the pieces were changed: %q", pieces)
	}
	before := stateOf(st)
	for i := range pieces {
		pieces[i] = "x"
	}
	if after := stateOf(st); after != before {
		t.Errorf("P1: %s, was %s", after, before)
	}
}

func TestImportListsAreNew(t *testing.T) {
	s := exportOf("m m", "b m", "z m", "a b m z")
	one, two := NewStore(), NewStore()
	first, second := importOf(one, s), importOf(two, s)
	before := stateOf(one)
	writeAll(first.l, "x")
	if !second.same(imported{l: refsOf("m b z a")}) {
		t.Errorf("P1: two answers share a list: %v", second)
	}
	for _, p := range one.Paths() {
		x, _ := one.Get(p)
		writeAll(x.Tree, link("x", "x"))
		writeAll(x.Refs, "x")
	}
	importOf(one, exportOf("n m", "o n"))
	one.Export([]string{"a", "o"})
	for _, p := range first.l[:cap(first.l)] {
		if p != "x" {
			t.Errorf("P1: %q was written into a list that was handed out", p)
		}
	}
	if after := stateOf(two); after != before {
		t.Errorf("P1: %s, was %s", after, before)
	}
	wantShelf(t, one, shelfOf(t, "m m", "b m", "z m", "a b m z", "n m", "o n"))
}

func TestImportSideBySide(t *testing.T) {
	one, two, none := storeOf(t, "m m", "a m"), storeOf(t, "q"), NewStore()
	x, _ := one.Export([]string{"a"})
	if got := importOf(two, cut(x, 11)...); !got.same(imported{l: refsOf("m a")}) {
		t.Errorf("P7: %v", got)
	}
	wantInsert(t, two, "b", leaf("b"), []string{"a", "q"}, api.OK)
	wantPaths(t, one, "a", "m")
	y, _ := two.Export([]string{"b"})
	if y != exportOf("m m", "a m", "q", "b a q") {
		t.Errorf("P6: %q", y)
	}
	if got := importOf(one, y); !got.same(imported{l: refsOf("q b")}) {
		t.Errorf("P7: %v", got)
	}
	wantExport(t, one, []string{"b"}, y)
	wantPaths(t, two, "a", "b", "m", "q")
	wantPaths(t, none)
}

func TestImportInSeveralGoroutines(t *testing.T) {
	texts := []string{"z", "y y z", "a z", "b a y", "c", "d b c", "0 c z"}
	s, want := exportOf(texts...), stateOf(storeOf(t, texts...))
	states := make(chan string)
	pieces := cut(s, 33)
	for range 8 {
		go func() {
			st := NewStore()
			importOf(st, s+"x")
			importOf(st, pieces...)
			st.Export([]string{"d"})
			states <- stateOf(st)
		}()
	}
	for range 8 {
		if got := <-states; got != want {
			t.Errorf("P1: %s, want %s", got, want)
		}
	}
}

func TestImportIntoStoresThatNobodyMade(t *testing.T) {
	s := exportOf("a")
	for _, st := range []*Store{nil, {}} {
		wantExport(t, st, nil, words("export-1 end"))
		if x, e := st.Export([]string{"a"}); x != "" || e != api.ErrNone {
			t.Errorf("P1: Export: %q, %d", x, e)
		}
		for _, c := range []struct {
			s    string
			want imported
		}{
			{words("export-1 end"), imported{}}, {"", imported{e: api.ErrEnd}}, {s, imported{e: api.ErrFull, at: len(s) - 32}}, {words("export-1 path A"), imported{e: api.ErrPath, at: 32}},
		} {
			if got := importOf(st, c.s); !got.same(c.want) {
				t.Errorf("P1: Import(%q): %v, want %v", c.s, got, c.want)
			}
		}
		wantPaths(t, st)
	}
}
