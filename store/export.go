package store

import (
	"nar/api"
	"nar/wire"
)

// Export: what the roots lead to, as bytes, in the order of the closure: so each reference stands behind what it leads to.
func (m Entries) Export(roots []string) (string, api.Errno) {
	paths, e := m.Closure(roots)
	if e != api.OK {
		return "", e
	}
	out := wire.Append(nil, "export-1")
	for _, path := range paths {
		out = appendEntry(out, path, m[path])
	}
	return string(wire.Append(out, "end")), api.OK
}

// appendEntry: a path and what is there, behind out. The tree is in bytes already, so it stands as it is.
func appendEntry(out []byte, path string, x entry) []byte {
	out = wire.Append(out, "path", path)
	out = append(out, x.tree...)
	out = wire.Append(out, "refs")
	for _, ref := range x.refs {
		out = wire.Append(out, "ref", ref)
	}
	return wire.Append(out, "sum", wire.Sum(x.tree))
}
