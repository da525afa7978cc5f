// Package nar: trees as bytes, and stores of them: see DOC.md.
package nar

import (
	"nar/api"
	"nar/store"
	"nar/tree"
	"nar/wire"
)

// Pack: a tree as bytes; or the first node that is wrong (P2).
func Pack(l []api.Node) (string, api.Errno, int) { return tree.Pack(l) }

// Sum: of bytes: eight (P2).
func Sum(s string) string { return wire.Sum(s) }

// Reader: of a tree out of bytes that come in pieces.
type Reader struct {
	in *tree.Reader // nil, if it is closed
}

// NewReader: of no bytes yet (P3).
func NewReader() *Reader { return &Reader{in: tree.NewReader()} }

// Feed: more bytes (P3).
func (r *Reader) Feed(s string) api.Errno {
	if r.isClosed() {
		return api.ErrClosed
	}
	r.in.Feed(s)
	return api.OK
}

// Close: all bytes have come (P3).
func (r *Reader) Close() ([]api.Node, api.Errno, int) {
	if r.isClosed() {
		return nil, api.ErrClosed, 0
	}
	in := r.in
	r.in = nil // with it all is let go that was kept, the list that is handed out too
	return in.Close()
}

// isClosed: so is a reader that NewReader did not make: no call may panic on it.
func (r *Reader) isClosed() bool { return r == nil || r.in == nil }

// Store: trees by their paths.
type Store struct {
	in store.Entries
}

// NewStore: an empty one (P4).
func NewStore() *Store { return &Store{in: store.Entries{}} }

// Insert: an entry more (P4).
func (s *Store) Insert(path string, l []api.Node, refs []string) api.Errno {
	return s.entries().Insert(path, l, refs)
}

// Get: an entry (P5).
func (s *Store) Get(path string) (api.Entry, api.Errno) { return s.entries().Get(path) }

// Paths: all, rising (P5).
func (s *Store) Paths() []string { return s.entries().Paths() }

// Closure: what some paths lead to (P5).
func (s *Store) Closure(roots []string) ([]string, api.Errno) { return s.entries().Closure(roots) }

// Export: that as bytes (P6).
func (s *Store) Export(roots []string) (string, api.Errno) { return s.entries().Export(roots) }

// Import: entries out of bytes, all of them or none (P7).
func (s *Store) Import(pieces []string) ([]string, api.Errno, int) {
	return s.entries().Import(pieces)
}

// entries: a store that NewStore did not make has none, and no room for one: no call may panic on it.
func (s *Store) entries() store.Entries {
	if s == nil {
		return nil
	}
	return s.in
}
