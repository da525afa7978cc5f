package tree

import (
	"nar/api"
	"nar/wire"
)

// Pack: a tree as bytes; or the number of the first node that is wrong.
func Pack(l []api.Node) (string, api.Errno, int) {
	if at, wrong := firstWrong(l); wrong {
		return "", api.ErrTree, at
	}
	out, _ := appendNode(wire.Append(nil, "nar-1"), l)
	return string(out), api.OK, 0
}

// appendNode: the first node of l, with all that is in it, behind out; and what of l is left.
func appendNode(out []byte, l []api.Node) ([]byte, []api.Node) {
	n, rest := l[0], l[1:]
	out = wire.Append(out, "(", "type", kindWord(n.Kind))
	switch n.Kind {
	case api.Exec:
		out = wire.Append(out, "exec", "")
		fallthrough
	case api.File:
		out = wire.Append(out, "data", n.Data)
	case api.Link:
		out = wire.Append(out, "to", n.Data)
	case api.Dir:
		out, rest = appendEntries(out, rest, prefixIn(n.Path))
	}
	return wire.Append(out, ")"), rest
}

// appendEntries: the nodes at the head of l that stand in the directory of that prefix.
func appendEntries(out []byte, l []api.Node, dir string) ([]byte, []api.Node) {
	for len(l) > 0 {
		prefix, name := split(l[0].Path)
		if prefix != dir {
			break
		}
		out = wire.Append(out, "entry", "(", "name", name, "node")
		out, l = appendNode(out, l)
		out = wire.Append(out, ")")
	}
	return out, l
}

// kindWord: files have one word, whether they can be run or not.
func kindWord(k api.Kind) string {
	switch k {
	case api.Link:
		return "link"
	case api.Dir:
		return "dir"
	}
	return "file"
}
