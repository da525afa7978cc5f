package tree

import (
	"slices"
	"strings"
	"testing"

	"nar/api"
	"nar/expect"
	"nar/wire"
)

func TestReaderKeepsNothingBehindAnError(t *testing.T) {
	r := NewReader()
	r.Feed(string(wire.Append(nil, "nar-1", "(", "type", "dir", "entry", "(", "name", "a", "node", "(", "type", "dir", "entries")))
	r.Feed(strings.Repeat("x", 1000))
	if r.nodes != nil || r.dirs != nil || r.path != "" || r.Left() != 0 {
		t.Errorf("kept: %d nodes, %d directories, %q, %d bytes", len(r.nodes), len(r.dirs), r.path, r.Left())
	}
	if l, e, at := r.Close(); l != nil || e != api.ErrWord || at != 12*16 {
		t.Errorf("%v, %d, %d", l, e, at)
	}
}

func TestReaderLetsGoOfDirectoriesThatAreOver(t *testing.T) {
	r := NewReader()
	r.Feed(string(wire.Append(nil, "nar-1", "(", "type", "dir", "entry", "(", "name", "a", "node", "(", "type", "dir", ")", ")", ")")))
	if len(r.dirs) != 0 || len(r.nodes) != 2 {
		t.Errorf("%d directories, %d nodes", len(r.dirs), len(r.nodes))
	}
}

func TestUnpack(t *testing.T) {
	l := []api.Node{{Kind: api.Dir}, {Path: "a", Kind: api.Dir}, {Path: "a/x", Kind: api.Exec, Data: "\x00run"}, {Path: "b", Kind: api.Link, Data: "a"}, {Path: "c", Kind: api.File}}
	s, _, _ := Pack(l)
	first, second := Unpack(s), Unpack(s)
	if !slices.Equal(first, l) || !slices.Equal(second, l) {
		t.Errorf("%v, %v", first, second)
	}
	first[0] = api.Node{}
	if !slices.Equal(second, l) {
		t.Errorf("two lists share memory: %v", second)
	}
}

// TestMustTreeAmongOtherStrings: trees one behind another, each read as if it were alone.
func TestMustTreeAmongOtherStrings(t *testing.T) {
	one := []api.Node{{Kind: api.Dir}, {Path: "z", Kind: api.Link, Data: "x"}}
	two := []api.Node{{Kind: api.Dir}, {Path: "a", Kind: api.File}}
	var r Reader
	var got []string
	note := expect.Words(func(s string) api.Errno {
		got = append(got, r.TreeBytes()+s)
		return api.OK
	})
	again := expect.Words(func(s string) api.Errno {
		r.MustTree()
		return api.OK
	})
	r.Must(again, note, again, note)
	first, _, _ := Pack(one)
	second, _, _ := Pack(two)
	for _, s := range []string{string(wire.Append(nil, "x")), first, string(wire.Append(nil, "1", "x")), second, string(wire.Append(nil, "2"))} {
		r.Feed(s)
	}
	if l, e, at := r.Close(); e != api.OK || at != 0 || !slices.Equal(l, two) {
		t.Errorf("%v, %d, %d", l, e, at)
	}
	if !slices.Equal(got, []string{first + "1", second + "2"}) {
		t.Errorf("%q", got)
	}
}
