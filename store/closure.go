package store

import (
	"container/heap"
	"slices"
	"strings"

	"nar/api"
)

// waiting: a path that is to be told.
type waiting struct {
	path  string
	wants int        // paths that must be told ahead of it and are not yet
	users []*waiting // those that want this one
}

func (w *waiting) rank() string { return w.path }

// Closure: what the roots lead to, themselves too: each time the least of those that want no other any more.
func (m Entries) Closure(roots []string) ([]string, api.Errno) {
	if slices.ContainsFunc(roots, m.lacks) {
		return nil, api.ErrNone
	}
	return inOrder(m.reached(roots)), api.OK
}

// reached: all that the roots lead to, with what wants what.
func (m Entries) reached(roots []string) map[string]*waiting {
	found := map[string]*waiting{}
	var reach func(path string) *waiting
	reach = func(path string) *waiting {
		if w := found[path]; w != nil {
			return w
		}
		w := &waiting{path: strings.Clone(path)}
		found[w.path] = w
		for _, ref := range m[path].refs {
			if ref == path { // or it would wait for itself
				continue
			}
			used := reach(ref)
			used.users = append(used.users, w)
			w.wants++
		}
		return w
	}
	for _, root := range roots {
		reach(root)
	}
	return found
}

// inOrder: the map gives them in any order; the heap hands out the least first, whatever came into it first.
func inOrder(found map[string]*waiting) []string {
	ready := &queue{}
	for _, w := range found {
		if w.wants == 0 {
			heap.Push(ready, w)
		}
	}
	var out []string
	for ready.Len() > 0 {
		w := heap.Pop(ready).(*waiting)
		out = append(out, w.path)
		for _, user := range w.users {
			user.wants--
			if user.wants == 0 {
				heap.Push(ready, user)
			}
		}
	}
	return out
}
