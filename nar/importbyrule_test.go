package nar

import (
	"slices"
	"strings"
	"testing"

	"nar/api"
)

// path: where one must come, of a store.
func (r *byRule) path(came []string) string {
	p := r.next(12)
	if !pathByRule.MatchString(p) {
		r.wrong(api.ErrPath, r.began)
	}
	if slices.Contains(came, p) {
		r.wrong(api.ErrOrder, r.began)
	}
	return p
}

// refs: of that path, on the shelf and behind the paths that have come.
func (r *byRule) refs(h shelf, path string, came []string) []string {
	var out []string
	for r.word("ref", "sum") == "ref" {
		ref := r.next(12)
		if len(out) > 0 && ref <= out[len(out)-1] {
			r.wrong(api.ErrOrder, r.began)
		}
		if ref != path && h.find(ref) < 0 && !slices.Contains(came, ref) {
			r.wrong(api.ErrRef, r.began)
		}
		out = append(out, ref)
	}
	return out
}

// entry: behind its word; and whether the shelf has it not.
func (r *byRule) entry(h shelf, came []string) (shelved, bool) {
	x := shelved{path: r.path(came)}
	from := r.at
	r.nodes = nil
	r.word("nar-1")
	r.node("", 0)
	tree := r.s[from:r.at]
	x.l = r.nodes
	r.word("refs")
	x.refs = r.refs(h, x.path, came)
	if r.next(8) != Sum(tree) {
		r.wrong(api.ErrSum, r.began)
	}
	if at := h.find(x.path); at >= 0 {
		if !slices.Equal(h[at].l, x.l) || !slices.Equal(h[at].refs, x.refs) {
			r.wrong(api.ErrHas, r.began)
		}
		return x, false
	}
	together := slices.Clone(came)
	for _, y := range h {
		together = append(together, y.path)
	}
	slices.Sort(together)
	if len(slices.Compact(together)) >= 10 {
		r.wrong(api.ErrFull, r.began)
	}
	return x, true
}

// imports: an export onto the shelf, straight by the document's words.
func (h *shelf) imports(s string) (out imported) {
	defer func() {
		if x := recover(); x != nil {
			out = imported{e: x.(told).e, at: x.(told).at}
		}
	}()
	r := &byRule{s: s}
	r.word("export-1")
	var came, added []string
	var all shelf
	for r.word("path", "end") == "path" {
		x, isNew := r.entry(*h, came)
		came = append(came, x.path)
		if isNew {
			all, added = append(all, x), append(added, x.path)
		}
	}
	if r.at < len(s) {
		r.wrong(api.ErrRest, r.at)
	}
	*h = append(*h, all...)
	return imported{l: added}
}

// wantImportByRule: of bytes that may be right or wrong, into a store with what lies on the shelf.
func wantImportByRule(t *testing.T, h shelf, s string, seen map[api.Errno]int) {
	t.Helper()
	after := slices.Clone(h)
	want := after.imports(s)
	seen[want.e]++
	for _, n := range []int{len(s), 1 + len(s)%37} {
		st := h.put(t)
		if got := importOf(st, cut(s, n)...); !got.same(want) {
			t.Fatalf("P7: %v: %q in pieces of %d: %v, want %v", h, s, n, got, want)
		}
		wantShelf(t, st, after)
	}
}

// someShelves: nothing, some of m and a, another m, another a, and one path short of being full.
func someShelves(t *testing.T) []shelf {
	t.Helper()
	almost := shelfOf(t, numberedTexts(0, 9)...)
	return []shelf{nil, shelfOf(t, "m m"), shelfOf(t, "m"), append(shelfOf(t, "m m"), shelved{"a", leaf("b"), []string{"m"}}), almost}
}

func TestImportWithEachByteChanged(t *testing.T) {
	seen := map[api.Errno]int{}
	s := exportOf("m m", "a m")
	for i := range len(s) {
		for _, h := range someShelves(t)[:3] {
			for _, b := range []byte{0, 1, 9, 13, 'a', 'z', 0x80, 0xff, s[i] + 1, s[i] - 1} {
				wantImportByRule(t, h, s[:i]+string([]byte{b})+s[i+1:], seen)
			}
			wantImportByRule(t, h, s[:i]+s[i+1:], seen)
			wantImportByRule(t, h, s[:i]+"\x00"+s[i:], seen)
		}
	}
	wantSeen(t, seen, api.OK, api.ErrEnd, api.ErrSize, api.ErrPad, api.ErrWord, api.ErrPath, api.ErrHas, api.ErrRef, api.ErrSum)
}

func TestImportWithEachStringChanged(t *testing.T) {
	others := []string{"", "export-1", "path", "refs", "ref", "sum", "end", "nar-1", "(", ")", "type", "file", "link", "dir", "data", "exec", "to", "entry", "name", "node", "a", "m", "q", "z", "A", "12345678", "123456789", "abcdefghijkl", "abcdefghijklm", strings.Repeat("x", 101)}
	seen := map[api.Errno]int{}
	tree := packed(t, root(exec("x", "run"), link("y", "x")))
	l := stringsOf(words("export-1") + leafBytes("m m") + entryBytes("a", tree, "a", "m") + leafBytes("z a") + words("end"))
	for i := range l {
		for _, h := range someShelves(t) {
			wantImportByRule(t, h, inBytes(slices.Delete(slices.Clone(l), i, i+1)...), seen)
			for _, x := range others {
				changed := slices.Clone(l)
				changed[i] = x
				wantImportByRule(t, h, inBytes(changed...), seen)
				wantImportByRule(t, h, inBytes(slices.Insert(slices.Clone(l), i, x)...), seen)
			}
		}
	}
	wantSeen(t, seen, api.OK, api.ErrEnd, api.ErrSize, api.ErrWord, api.ErrName, api.ErrOrder, api.ErrRest, api.ErrPath, api.ErrHas, api.ErrRef, api.ErrFull, api.ErrSum)
}

// TestImportOfStringsMoved: two of an export's strings change places, or a run of them comes twice.
func TestImportOfStringsMoved(t *testing.T) {
	seen := map[api.Errno]int{}
	l := stringsOf(exportOf("m m", "a m", "b a m"))
	for i := range l {
		for k := i + 1; k <= len(l); k++ {
			twice := slices.Concat(l[:k], l[i:])
			wantImportByRule(t, nil, inBytes(twice...), seen)
			wantImportByRule(t, nil, inBytes(slices.Concat(l[:i], l[k:])...), seen)
			if k < len(l) {
				turned := slices.Clone(l)
				turned[i], turned[k] = turned[k], turned[i]
				wantImportByRule(t, nil, inBytes(turned...), seen)
			}
		}
	}
	wantSeen(t, seen, api.OK, api.ErrEnd, api.ErrWord, api.ErrOrder, api.ErrRef, api.ErrSum, api.ErrRest)
}

// someEntries: by dice, so that most of them may come, and some are wrong in one way or another.
func someEntries(t *testing.T, d *dice, paths []string, trees []string) string {
	t.Helper()
	out := words("export-1")
	var came []string
	for range d.throw(12) {
		p, tree := paths[d.throw(len(paths))], trees[d.throw(len(trees))]
		if d.throw(6) > 0 { // of each path mostly the same tree, so that it may be there already
			tree = trees[len(p)%len(trees)]
		}
		if d.throw(60) == 0 {
			p = "A" + p
		}
		refs := d.pick(came, 4)
		if d.throw(20) == 0 {
			refs = append(refs, paths[d.throw(len(paths))])
		}
		if d.throw(20) > 0 {
			slices.Sort(refs)
		}
		if slices.Contains(came, p) && d.throw(30) > 0 {
			continue
		}
		came = append(came, p)
		entry := entryBytes(p, tree, refs...)
		if d.throw(40) == 0 {
			entry = headBytes(p, tree, refs...) + inBytes("sum", "12345678")
		}
		out += entry
	}
	if d.throw(40) == 0 {
		return out
	}
	return out + words("end")
}

// TestImportByRule: stores that get more and more, out of bytes by dice and of each other's exports, held against shelves.
func TestImportByRule(t *testing.T) {
	paths := refsOf("- -a 0 00 a a- aa b c m z abcdefghijkl")
	trees := []string{packed(t, leaf("x")), packed(t, root()), packed(t, files("a", "b"))}
	seen := map[api.Errno]int{}
	d := dice(3)
	for range 300 {
		stores, shelves := []*Store{NewStore(), NewStore()}, make([]shelf, 2)
		for range 12 {
			i := d.throw(2)
			s, h := stores[i], &shelves[i]
			in := someEntries(t, &d, paths, trees)
			if d.throw(2) == 0 {
				other := 1 - i
				roots := d.pick(stores[other].Paths(), 3)
				x, e := stores[other].Export(roots)
				if want, f := shelves[other].export(t, roots); x != want || e != f {
					t.Fatalf("P6: %v: Export(%q) = %q, %d, want %q, %d", shelves[other], roots, x, e, want, f)
				}
				in = x
			}
			got := importOf(s, cut(in, 1+d.throw(300))...)
			if want := h.imports(in); !got.same(want) {
				t.Fatalf("P7: %v: %q: %v, want %v", *h, in, got, want)
			}
			seen[got.e]++
			wantShelf(t, s, *h)
		}
	}
	wantSeen(t, seen, api.OK, api.ErrEnd, api.ErrOrder, api.ErrPath, api.ErrHas, api.ErrRef, api.ErrFull, api.ErrSum)
}
