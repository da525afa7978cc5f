package store

import (
	"container/heap"
	"slices"
	"strings"
	"testing"

	"nar/api"
)

func leaf() []api.Node { return []api.Node{{Kind: api.File}} }

func TestIsPath(t *testing.T) {
	for _, s := range []string{"a", "z", "0", "9", "-", "abcdefghijkl"} {
		if !isPath(s) {
			t.Errorf("%q is a path", s)
		}
	}
	for _, s := range []string{"", "A", "`", "{", "/", ":", ",", ".", "é", "\xff", "a\x00", "abcdefghijklm"} {
		if isPath(s) {
			t.Errorf("%q is no path", s)
		}
	}
}

func TestRise(t *testing.T) {
	for _, text := range []string{"", "a", "a b", "- 0 a a- aa", "Z a é"} {
		if !rise(strings.Fields(text)) {
			t.Errorf("%q rises", text)
		}
	}
	for _, text := range []string{"a a", "b a", "a b b", "a c b", "aa a", "é z"} {
		if rise(strings.Fields(text)) {
			t.Errorf("%q does not rise", text)
		}
	}
}

func TestQueueHandsOutTheLeast(t *testing.T) {
	q := &queue{}
	for _, s := range []string{"m", "a", "z", "a-", "0"} {
		heap.Push(q, &waiting{path: s})
	}
	var got []string
	for q.Len() > 0 {
		got = append(got, heap.Pop(q).(*waiting).path)
		if len(got) == 2 {
			heap.Push(q, &waiting{path: "-"})
		}
	}
	if want := []string{"0", "a", "-", "a-", "m", "z"}; !slices.Equal(got, want) {
		t.Errorf("%q, want %q", got, want)
	}
}

func TestQueueTakesOnlyWhatHasARank(t *testing.T) {
	q := &queue{}
	q.Push("a")
	q.Push(nil)
	if q.Len() != 0 {
		t.Errorf("%d in it", q.Len())
	}
}

func TestReachedTellsWhatWantsWhat(t *testing.T) {
	m := Entries{"m": {refs: []string{"m"}}, "z": {refs: []string{"m"}}, "a": {refs: []string{"a", "m", "z"}}, "else": {refs: []string{"a"}}}
	found := m.reached([]string{"a", "z"})
	if len(found) != 3 || found["m"].wants != 0 || found["z"].wants != 1 || found["a"].wants != 2 {
		t.Errorf("%d are found", len(found))
	}
	if len(found["m"].users) != 2 || len(found["z"].users) != 1 || len(found["a"].users) != 0 {
		t.Errorf("they have %d, %d and %d users", len(found["m"].users), len(found["z"].users), len(found["a"].users))
	}
}

func TestEntriesThatNobodyMade(t *testing.T) {
	var m Entries
	if e := m.Insert("a", leaf(), nil); e != api.ErrFull {
		t.Errorf("Insert: %d", e)
	}
	if len(m.Paths()) != 0 || !m.lacks("a") {
		t.Errorf("%d paths", len(m.Paths()))
	}
	none, e := m.Export(nil)
	if e != api.OK {
		t.Errorf("Export: %d", e)
	}
	if l, e, at := m.Import([]string{none}); len(l) != 0 || e != api.OK || at != 0 {
		t.Errorf("Import: %q, %d, %d", l, e, at)
	}
}

func TestMayRefer(t *testing.T) {
	m := Entries{"b": {}}
	for ref, want := range map[string]bool{"a": true, "b": true, "c": false, "": false} {
		if m.mayRefer("a", ref) != want {
			t.Errorf("%q: %v", ref, !want)
		}
	}
}

// TestImportSharesNothing: two stores that one export came into, and the one it came of, have lists of their own.
func TestImportSharesNothing(t *testing.T) {
	m, one, two := Entries{}, Entries{}, Entries{}
	m.Insert("a", leaf(), []string{"a"})
	m.Insert("b", leaf(), []string{"a", "b"})
	s, _ := m.Export([]string{"b"})
	one.Import([]string{s})
	two.Import([]string{s})
	one["b"].refs[0] = "x"
	one["a"].refs[0] = "x"
	for _, l := range [][]string{m["a"].refs, two["a"].refs, m["b"].refs, two["b"].refs, one["b"].refs[1:]} {
		if slices.Contains(l, "x") {
			t.Errorf("%q", l)
		}
	}
}

// TestAnImportThatIsRefusedWritesNowhere: not even into what is there already.
func TestAnImportThatIsRefusedWritesNowhere(t *testing.T) {
	m, from := Entries{}, Entries{}
	m.Insert("a", leaf(), nil)
	from.Insert("a", leaf(), nil)
	from.Insert("b", leaf(), []string{"a"})
	s, _ := from.Export([]string{"b"})
	before := m["a"].tree
	if l, e, at := m.Import([]string{s, "x"}); l != nil || e != api.ErrRest || at != len(s) {
		t.Errorf("%q, %d, %d", l, e, at)
	}
	if len(m) != 1 || m["a"].tree != before || m["a"].refs != nil {
		t.Errorf("%v", m)
	}
}

// TestInsertKeepsNothingTwice: an entry that is there already is left as it is.
func TestInsertKeepsNothingTwice(t *testing.T) {
	m := Entries{}
	for range 3 {
		if e := m.Insert("a", leaf(), []string{"a"}); e != api.OK || len(m) != 1 {
			t.Errorf("%d, %d entries", e, len(m))
		}
	}
}
