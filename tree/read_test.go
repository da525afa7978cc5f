package tree

import (
	"strings"
	"testing"

	"nar/api"
	"nar/wire"
)

func TestReaderKeepsNothingBehindAnError(t *testing.T) {
	r := NewReader()
	r.Feed(string(wire.Append(nil, "nar-1", "(", "type", "dir", "entry", "(", "name", "a", "node", "(", "type", "dir", "entries")))
	r.Feed(strings.Repeat("x", 1000))
	if r.nodes != nil || r.dirs != nil || r.path != "" || r.Left() != 0 {
		t.Errorf("kept: %d nodes, %d directories, %q, %d bytes", len(r.nodes), len(r.dirs), r.path, r.Left())
	}
	if l, e, at := r.Close(); l != nil || e != api.ErrWord || at != 12*16 {
		t.Errorf("%v, %d, %d", l, e, at)
	}
}

func TestReaderLetsGoOfDirectoriesThatAreOver(t *testing.T) {
	r := NewReader()
	r.Feed(string(wire.Append(nil, "nar-1", "(", "type", "dir", "entry", "(", "name", "a", "node", "(", "type", "dir", ")", ")", ")")))
	if len(r.dirs) != 0 || len(r.nodes) != 2 {
		t.Errorf("%d directories, %d nodes", len(r.dirs), len(r.nodes))
	}
}
