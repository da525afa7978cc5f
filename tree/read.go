package tree

import (
	"unicode/utf8"

	"nar/api"
	"nar/expect"
)

// Reader: of a tree out of bytes that come in pieces.
type Reader struct {
	expect.Reader
	grown
}

// grown: the tree as far as it has been read.
type grown struct {
	nodes []api.Node
	dirs  []open // that stand above the next node
	path  string // of the next node
}

// NewReader: of no bytes yet.
func NewReader() *Reader {
	r := &Reader{}
	r.MustTree()
	return r
}

// MustTree: a tree comes next, ahead of all that the list has already; what was read of another is let go.
func (r *Reader) MustTree() {
	r.grown = grown{}
	r.Must(expect.Word("nar-1"), expect.Words(r.takeBracket))
}

// Feed: bytes more.
func (r *Reader) Feed(s string) {
	if e := r.Read(s); e != api.OK {
		r.grown = grown{} // nobody will ask for it
	}
}

// Close: the tree, or what is wrong with the bytes, and where.
func (r *Reader) Close() ([]api.Node, api.Errno, int) {
	if e, at := r.End(); e != api.OK {
		return nil, e, at
	}
	return r.nodes, api.OK, 0
}

// TreeBytes: of the tree that was read last. There is just one way to write it, so they are those that came.
func (r *Reader) TreeBytes() string {
	s, _, _ := Pack(r.nodes)
	return s
}

// Unpack: the tree that Pack wrote.
func Unpack(s string) []api.Node {
	r := NewReader()
	r.Feed(s)
	l, _, _ := r.Close()
	return l
}

// takeBracket: where a node begins.
func (r *Reader) takeBracket(s string) api.Errno {
	switch {
	case s != "(":
		return api.ErrWord
	case len(r.dirs) > api.MaxDepth:
		return api.ErrDeep
	case len(r.nodes) >= api.MaxNodes:
		return api.ErrMany
	}
	r.nodes = append(r.nodes, api.Node{Path: r.path})
	r.Must(expect.Word("type"), expect.Words(r.takeKind))
	return api.OK
}

// takeKind: whether a file can be run is told by the word behind its kind.
func (r *Reader) takeKind(s string) api.Errno {
	n := r.newest()
	switch s {
	case "file":
		n.Kind = api.File
		r.Must(expect.Words(r.takeInFile))
	case "link":
		n.Kind = api.Link
		r.Must(expect.Word("to"), r.data(), expect.Word(")"))
	case "dir":
		n.Kind = api.Dir
		r.dirs = enter(r.dirs, *n)
		r.Must(expect.Words(r.takeInDir))
	default:
		return api.ErrWord
	}
	return api.OK
}

// takeInFile: the word behind file.
func (r *Reader) takeInFile(s string) api.Errno {
	switch s {
	case "exec":
		r.newest().Kind = api.Exec
		r.Must(expect.Word(""), expect.Word("data"), r.data(), expect.Word(")"))
	case "data":
		r.Must(r.data(), expect.Word(")"))
	default:
		return api.ErrWord
	}
	return api.OK
}

// takeInDir: the word behind dir, and behind each entry.
func (r *Reader) takeInDir(s string) api.Errno {
	switch s {
	case "entry":
		name := expect.Item{Most: utf8.UTFMax * api.MaxName, Take: r.takeName}
		node := expect.Words(r.takeBracket)
		r.Must(expect.Word("("), expect.Word("name"), name, expect.Word("node"), node, expect.Word(")"), expect.Words(r.takeInDir))
	case ")":
		r.dirs = r.dirs[:len(r.dirs)-1]
	default:
		return api.ErrWord
	}
	return api.OK
}

func (r *Reader) takeName(s string) api.Errno {
	in := &r.dirs[len(r.dirs)-1]
	if !isName(s) {
		return api.ErrName
	}
	if s <= in.last {
		return api.ErrOrder
	}
	in.last = s
	r.path = in.prefix + s
	return api.OK
}

// data: a file's bytes, or where a link leads.
func (r *Reader) data() expect.Item { return expect.Item{Most: api.MaxData, Take: r.takeData} }

// takeData: what is not too long is wrong only where a link leads.
func (r *Reader) takeData(s string) api.Errno {
	n := r.newest()
	if !dataFits(n.Kind, s) {
		return api.ErrName
	}
	n.Data = s
	return api.OK
}

// newest: the node whose strings are read, until another begins.
func (r *Reader) newest() *api.Node { return &r.nodes[len(r.nodes)-1] }
