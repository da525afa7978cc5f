package store

import (
	"maps"
	"slices"

	"nar/api"
	"nar/expect"
	"nar/tree"
	"nar/wire"
)

// importer: reads an export into a second store, so that the first is as it was if an error comes.
type importer struct {
	tree.Reader
	all   Entries  // of the store, and what has come whole
	came  []string // paths of these bytes; the last is the one whose entry is read
	refs  []string // of that one
	added []string // paths that the store had not
}

// Import: what an export tells comes in, if all of it may.
func (m Entries) Import(pieces []string) ([]string, api.Errno, int) {
	r := &importer{all: maps.Clone(m)}
	r.Must(expect.Word("export-1"), expect.Words(r.takeInExport))
	for _, s := range pieces {
		r.Feed(s)
	}
	if e, at := r.End(); e != api.OK {
		return nil, e, at
	}
	maps.Copy(m, r.all)
	return r.added, api.OK, 0
}

// takeInExport: the word behind export-1, and behind each entry.
func (r *importer) takeInExport(s string) api.Errno {
	switch s {
	case "path":
		r.Must(expect.Item{Most: api.MaxPath, Take: r.takePath})
	case "end":
	default:
		return api.ErrWord
	}
	return api.OK
}

// takePath: an entry begins.
func (r *importer) takePath(s string) api.Errno {
	if !isPath(s) {
		return api.ErrPath
	}
	if slices.Contains(r.came, s) {
		return api.ErrOrder
	}
	r.came = append(r.came, s)
	r.refs = nil
	r.Must(expect.Word("refs"), expect.Words(r.takeInRefs))
	r.MustTree()
	return api.OK
}

// takeInRefs: the word behind refs, and behind each reference.
func (r *importer) takeInRefs(s string) api.Errno {
	switch s {
	case "ref":
		r.Must(expect.Item{Most: api.MaxPath, Take: r.takeRef}, expect.Words(r.takeInRefs))
	case "sum":
		r.Must(r.sum(), expect.Words(r.takeInExport))
	default:
		return api.ErrWord
	}
	return api.OK
}

// takeRef: whether it is a path need not be asked: nothing else is there to refer to.
func (r *importer) takeRef(s string) api.Errno {
	refs := append(r.refs, s)
	if !rise(refs) {
		return api.ErrOrder
	}
	if !r.all.mayRefer(r.path(), s) {
		return api.ErrRef
	}
	r.refs = refs
	return api.OK
}

// sum: of the tree that was read; with it the entry is whole.
func (r *importer) sum() expect.Item {
	bytes := r.TreeBytes()
	want := wire.Sum(bytes)
	return expect.Item{Most: len(want), Take: func(s string) api.Errno {
		if s != want {
			return api.ErrSum
		}
		return r.keep(entry{tree: bytes, refs: r.refs})
	}}
}

// keep: an entry that has come whole.
func (r *importer) keep(x entry) api.Errno {
	path := r.path()
	if r.all.lacks(path) {
		r.added = append(r.added, path)
	}
	return r.all.put(path, x)
}

// path: of the entry that is read.
func (r *importer) path() string { return r.came[len(r.came)-1] }
