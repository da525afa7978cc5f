package nar

import (
	"fmt"
	"regexp"
	"slices"
	"sort"
	"testing"

	"nar/api"
)

// shelf: a store by the document's words, gone through from end to end each time.
type shelf []shelved

type shelved struct {
	path string
	l    []api.Node
	refs []string
}

func (h shelf) find(path string) int {
	return slices.IndexFunc(h, func(x shelved) bool { return x.path == path })
}

var pathByRule = regexp.MustCompile(`\A[a-z0-9-]{1,12}\z`)

func (h *shelf) insert(path string, l []api.Node, refs []string) api.Errno {
	if !pathByRule.MatchString(path) {
		return api.ErrPath
	}
	if !isTreeByRule(l) {
		return api.ErrTree
	}
	rising := slices.Clone(refs)
	sort.Strings(rising)
	if !slices.Equal(slices.Compact(rising), refs) {
		return api.ErrOrder
	}
	for _, r := range refs {
		if r != path && h.find(r) < 0 {
			return api.ErrRef
		}
	}
	if at := h.find(path); at >= 0 {
		if x := (*h)[at]; !slices.Equal(x.l, l) || !slices.Equal(x.refs, refs) {
			return api.ErrHas
		}
		return api.OK
	}
	if len(*h) == 10 {
		return api.ErrFull
	}
	*h = append(*h, shelved{path, slices.Clone(l), slices.Clone(refs)})
	return api.OK
}

// reach: more is looked for until nothing is found.
func (h shelf) reach(roots []string) []string {
	out := slices.Clone(roots)
	for more := true; more; {
		more = false
		for _, p := range out {
			for _, r := range h[h.find(p)].refs {
				if !slices.Contains(out, r) {
					out, more = append(out, r), true
				}
			}
		}
	}
	slices.Sort(out)
	return slices.Compact(out)
}

func (h shelf) closure(roots []string) ([]string, api.Errno) {
	for _, p := range roots {
		if h.find(p) < 0 {
			return nil, api.ErrNone
		}
	}
	left, told := h.reach(roots), []string(nil)
	for len(left) > 0 {
		at := slices.IndexFunc(left, func(p string) bool {
			return !slices.ContainsFunc(h[h.find(p)].refs, func(r string) bool { return r != p && !slices.Contains(told, r) })
		})
		told = append(told, left[at])
		left = slices.Delete(left, at, at+1)
	}
	return told, api.OK
}

func wantClosureByRule(t *testing.T, s *Store, h shelf, roots []string) {
	t.Helper()
	l, e := s.Closure(roots)
	if want, f := h.closure(roots); !slices.Equal(l, want) || e != f {
		t.Fatalf("P5: %v: Closure(%q) = %q, %d, want %q, %d", h, roots, l, e, want, f)
	}
}

// wantShelf: the store tells all that lies on the shelf, and nothing more.
func wantShelf(t *testing.T, s *Store, h shelf) {
	t.Helper()
	var paths []string
	for _, x := range h {
		paths = append(paths, x.path)
		wantEntry(t, s, x.path, x.l, x.refs)
	}
	sort.Strings(paths)
	wantPaths(t, s, paths...)
}

// dice: the same throws each time.
type dice uint64

func (d *dice) throw(n int) int {
	*d = *d*6364136223846793005 + 1442695040888963407
	return int(*d>>33) % n
}

// pick: some of l, in their order.
func (d *dice) pick(l []string, of int) []string {
	var out []string
	for _, s := range l {
		if d.throw(of) == 0 {
			out = append(out, s)
		}
	}
	return out
}

// TestStoreByRule: many calls one behind the other, right ones and wrong ones, held against a shelf.
func TestStoreByRule(t *testing.T) {
	paths := refsOf("- -a 0 00 a a- a0 aa b c m z A a_b abcdefghijkl abcdefghijklm")
	var trees [][]api.Node
	everyList(2, func(l []api.Node) {
		if len(trees) < 6 || isTreeByRule(l) {
			trees = append(trees, slices.Clone(l))
		}
	})
	seen := map[api.Errno]int{}
	d := dice(1)
	for range 400 {
		s, h := NewStore(), shelf{}
		for range 60 {
			p, l, refs := paths[d.throw(len(paths))], trees[d.throw(len(trees))], d.pick(paths, 5+d.throw(12))
			if len(h) > 0 && d.throw(3) == 0 { // one that is there, or nearly
				x := h[d.throw(len(h))]
				p, l = x.path, x.l
				if d.throw(2) == 0 {
					refs = slices.Clone(x.refs)
				}
			}
			if len(refs) > 1 && d.throw(8) == 0 {
				slices.Reverse(refs)
			}
			e := s.Insert(p, l, refs)
			if want := h.insert(p, l, refs); e != want {
				t.Fatalf("P4: %v: Insert(%q, %#v, %q) = %d, want %d", h, p, l, refs, e, want)
			}
			seen[e]++
			wantClosureByRule(t, s, h, d.pick(s.Paths(), 3))
			wantClosureByRule(t, s, h, d.pick(paths, 8))
		}
		wantShelf(t, s, h)
	}
	wantSeen(t, seen, api.OK, api.ErrPath, api.ErrTree, api.ErrOrder, api.ErrRef, api.ErrHas, api.ErrFull)
}

// someOf: those of l whose bit is set.
func someOf(l []string, bits int) []string {
	var out []string
	for i, s := range l {
		if bits>>i&1 > 0 {
			out = append(out, s)
		}
	}
	return out
}

// everyOrder: calls f with all orders of l.
func everyOrder(l []string, f func(l []string)) {
	var more func(n int)
	more = func(n int) {
		if n == len(l) {
			f(l)
		}
		for i := n; i < len(l); i++ {
			l[n], l[i] = l[i], l[n]
			more(n + 1)
			l[n], l[i] = l[i], l[n]
		}
	}
	more(0)
}

// TestClosureOfEverySmallStore: four paths, put in in every order, with all references that they may have, to themselves too, and all roots.
func TestClosureOfEverySmallStore(t *testing.T) {
	everyOrder(refsOf("- 0 a a0"), func(paths []string) {
		for bits := range 1 << 10 {
			s, h := NewStore(), shelf{}
			for i, p := range paths {
				refs := someOf(paths[:i+1], bits>>(i*(i+1)/2))
				slices.Sort(refs)
				h.insert(p, leaf(p), refs)
				if e := s.Insert(p, leaf(p), refs); e != api.OK {
					t.Fatalf("P4: Insert(%q, %q) = %d", p, refs, e)
				}
			}
			for roots := range 1 << 4 {
				wantClosureByRule(t, s, h, someOf(paths, roots))
			}
		}
	})
}

// TestClosureWhateverTheOrder: full stores, each put in in several orders.
func TestClosureWhateverTheOrder(t *testing.T) {
	names := refsOf("- 0 5 a a- aa k m x z")
	d := dice(7)
	for range 300 {
		for i := range names {
			k := d.throw(i + 1)
			names[i], names[k] = names[k], names[i]
		}
		var h shelf
		for i, p := range names {
			refs := d.pick(names[:i], 2+d.throw(4))
			if d.throw(4) == 0 {
				refs = append(refs, p)
			}
			slices.Sort(refs)
			if e := h.insert(p, leaf(p), refs); e != api.OK {
				t.Fatalf("P4: %d", e)
			}
		}
		for range 4 {
			s := putInSomeOrder(t, h, &d)
			for range 4 {
				wantClosureByRule(t, s, h, d.pick(names, 1+d.throw(5)))
			}
		}
	}
}

// putInSomeOrder: whatever can come next, by dice.
func putInSomeOrder(t *testing.T, h shelf, d *dice) *Store {
	t.Helper()
	s := NewStore()
	for tries := 0; len(s.Paths()) < len(h); tries++ {
		x := h[d.throw(len(h))]
		if e := s.Insert(x.path, x.l, x.refs); e != api.OK && e != api.ErrRef || tries > 100_000 {
			t.Fatalf("P4: %v: %q: %d", h, x.path, e)
		}
	}
	return s
}

func TestShelfItself(t *testing.T) {
	var h shelf
	for _, text := range []string{"m m", "z m", "b m", "a b z"} {
		l := refsOf(text)
		if e := h.insert(l[0], leaf(l[0]), l[1:]); e != api.OK {
			t.Fatalf("%q: %d", text, e)
		}
	}
	l, e := h.closure([]string{"a"})
	if fmt.Sprint(l) != "[m b z a]" || e != api.OK {
		t.Errorf("%q, %d", l, e)
	}
}
