// Package tree: which lists of nodes are trees, and trees as bytes and out of bytes.
package tree

import (
	"strings"
	"unicode/utf8"

	"nar/api"
)

// open: a directory into which a node may still come.
type open struct {
	prefix string // what stands ahead of the names in it
	last   string // the name that came last; the empty one is below every name
}

// firstWrong: the number of the first node with which l is no beginning of a tree, and whether there is one.
func firstWrong(l []api.Node) (int, bool) {
	if len(l) == 0 {
		return 0, true
	}
	var dirs []open
	for i, n := range l {
		right := false
		if i < api.MaxNodes && dataFits(n.Kind, n.Data) {
			dirs, right = place(dirs, n, i == 0)
		}
		if !right {
			return i, true
		}
	}
	return 0, false
}

// place: the directories that are open behind n, if n may stand behind those of dirs.
func place(dirs []open, n api.Node, root bool) ([]open, bool) {
	if root {
		return enter(dirs, n), n.Path == ""
	}
	prefix, name := split(n.Path)
	above := countAbove(dirs, prefix)
	if above == 0 || above > api.MaxDepth || !isName(name) || name <= dirs[above-1].last {
		return nil, false
	}
	dirs = dirs[:above] // those further in are over: nothing may come into them any more
	dirs[above-1].last = name
	return enter(dirs, n), true
}

// enter: opens n, if it is a directory.
func enter(dirs []open, n api.Node) []open {
	if n.Kind == api.Dir {
		dirs = append(dirs, open{prefix: prefixIn(n.Path)})
	}
	return dirs
}

// countAbove: how many directories stand above a node of that prefix; 0, if none that is open has it.
func countAbove(dirs []open, prefix string) int {
	for i, d := range dirs {
		if d.prefix == prefix {
			return i + 1
		}
	}
	return 0
}

// prefixIn: what stands ahead of the names in the directory of that path. In the root it is nothing, so that no path begins with /.
func prefixIn(path string) string {
	if path == "" {
		return ""
	}
	return path + "/"
}

// split: a path into what stands ahead of its last name, and that name.
func split(path string) (prefix, name string) {
	at := strings.LastIndexByte(path, '/') + 1
	return path[:at], path[at:]
}

// isName: a range over what is no valid UTF-8 would give U+FFFD, which is a letter too; so that is asked first.
func isName(s string) bool {
	if s == "." || s == ".." || !utf8.ValidString(s) {
		return false
	}
	letters := 0
	for _, r := range s {
		if r < 32 || r == 127 || r == '/' {
			return false
		}
		letters++
	}
	return letters >= 1 && letters <= api.MaxName
}

// dataFits: whether a node of kind k may have that data.
func dataFits(k api.Kind, data string) bool {
	switch k {
	case api.Link:
		return data != "" && len(data) <= api.MaxData && strings.IndexByte(data, 0) < 0
	case api.File, api.Exec:
		return len(data) <= api.MaxData
	case api.Dir:
		return data == ""
	}
	return false
}
