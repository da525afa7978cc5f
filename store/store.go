// Package store: trees by their paths, with references, what paths lead to, and that as bytes and out of bytes.
package store

import (
	"maps"
	"slices"
	"strings"

	"nar/api"
	"nar/tree"
	"nar/wire"
)

// Entries: of a store, by their paths. Those that nobody made (nil) are none, and no room.
type Entries map[string]entry

// entry: what it refers to was there ahead of it, but for itself: so no references lead round in more than one step.
type entry struct {
	tree string   // in bytes: there is just one way, so what is another tree is other bytes
	refs []string // rising
}

// Insert: an entry more.
func (m Entries) Insert(path string, l []api.Node, refs []string) api.Errno {
	if !isPath(path) {
		return api.ErrPath
	}
	bytes, e, _ := tree.Pack(l)
	if e != api.OK {
		return e
	}
	if !rise(refs) {
		return api.ErrOrder
	}
	if slices.ContainsFunc(refs, func(ref string) bool { return !m.mayRefer(path, ref) }) {
		return api.ErrRef
	}
	return m.put(path, entry{tree: bytes, refs: copied(refs)})
}

// put: x under path, if it may stand there.
func (m Entries) put(path string, x entry) api.Errno {
	old, has := m[path]
	switch {
	case has && !old.same(x):
		return api.ErrHas
	case !has && (m == nil || len(m) >= api.MaxPaths):
		return api.ErrFull
	case !has:
		m[strings.Clone(path)] = x
	}
	return api.OK
}

// Get: an entry.
func (m Entries) Get(path string) (api.Entry, api.Errno) {
	x, has := m[path]
	if !has {
		return api.Entry{}, api.ErrNone
	}
	return api.Entry{Tree: tree.Unpack(x.tree), Refs: copied(x.refs), Sum: wire.Sum(x.tree)}, api.OK
}

// Paths: all, rising.
func (m Entries) Paths() []string { return slices.Sorted(maps.Keys(m)) }

// mayRefer: to itself, or to what is there ahead of it.
func (m Entries) mayRefer(path, ref string) bool { return ref == path || !m.lacks(ref) }

// lacks: whether the path is not there.
func (m Entries) lacks(path string) bool {
	_, has := m[path]
	return !has
}

func (x entry) same(y entry) bool { return x.tree == y.tree && slices.Equal(x.refs, y.refs) }

// rise: whether each of l is above the one ahead of it, by their bytes.
func rise(l []string) bool {
	for i := 1; i < len(l); i++ {
		if l[i] <= l[i-1] {
			return false
		}
	}
	return true
}

// isPath: of a store, not of a tree.
func isPath(s string) bool {
	for i := range len(s) {
		if c := s[i]; (c < 'a' || c > 'z') && (c < '0' || c > '9') && c != '-' {
			return false
		}
	}
	return len(s) >= 1 && len(s) <= api.MaxPath
}

// copied: the texts too, for one may be a piece of a far longer one, which would be kept with it.
func copied(l []string) []string {
	var out []string
	for _, s := range l {
		out = append(out, strings.Clone(s))
	}
	return out
}
