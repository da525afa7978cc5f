package expect

import (
	"slices"
	"testing"

	"nar/api"
	"nar/wire"
)

func inBytes(l ...string) string { return string(wire.Append(nil, l...)) }

func TestMustGoesAheadOfTheRest(t *testing.T) {
	var r Reader
	var got []string
	note := func(s string) api.Errno {
		got = append(got, s)
		return api.OK
	}
	branch := func(s string) api.Errno {
		r.Must(Words(note), Word("in"))
		return note(s)
	}
	r.Must(Word("first"), Words(branch), Words(note))
	in := inBytes("first", "a", "b", "in", "c")
	for i := range in {
		if e := r.Read(in[i : i+1]); e != api.OK {
			t.Fatalf("byte %d: %d", i, e)
		}
	}
	if e, at := r.End(); e != api.OK || at != 0 || !slices.Equal(got, []string{"a", "b", "c"}) {
		t.Errorf("%q, %d, %d", got, e, at)
	}
}

func TestNothingMustCome(t *testing.T) {
	var r Reader
	if e := r.Read(""); e != api.OK {
		t.Errorf("no bytes: %d", e)
	}
	if e, at := r.End(); e != api.OK || at != 0 {
		t.Errorf("no bytes: %d, %d", e, at)
	}
	if e := r.Read("x"); e != api.ErrRest {
		t.Errorf("a byte: %d", e)
	}
}

func TestTheFirstErrorCounts(t *testing.T) {
	var r Reader
	r.Must(Word("a"), Word("b"), Word("c"))
	if e := r.Read(inBytes("a", "x")); e != api.ErrWord {
		t.Fatalf("%d", e)
	}
	for _, s := range []string{"", inBytes("b", "c"), "\xff\xff\xff\xff\xff\xff\xff\xff", inBytes("b", "c", "d")} {
		if e := r.Read(s); e != api.ErrWord {
			t.Errorf("then %q: %d", s, e)
		}
		if e, at := r.End(); e != api.ErrWord || at != 16 {
			t.Errorf("then %q: %d, %d", s, e, at)
		}
	}
	if r.Left() != 0 || r.list != nil {
		t.Errorf("kept: %d bytes, %d items", r.Left(), len(r.list))
	}
}

func TestAnErrorOfWhatTakes(t *testing.T) {
	var r Reader
	r.Must(Word("a"), Item{Most: 20, Take: func(s string) api.Errno { return api.ErrDeep }})
	r.Read(inBytes("a", "12345678901234567890", "b"))
	if e, at := r.End(); e != api.ErrDeep || at != 16 {
		t.Errorf("%d, %d", e, at)
	}
}

func TestEndIsToldAtTheEnd(t *testing.T) {
	var r Reader
	r.Must(Word("a"), Word("b"))
	in := inBytes("a", "b")
	for i := range in {
		if e, at := r.End(); e != api.ErrEnd || at != i {
			t.Errorf("%d bytes: %d, %d", i, e, at)
		}
		if e := r.Read(in[i : i+1]); e != api.OK {
			t.Errorf("%d bytes: %d", i+1, e)
		}
	}
	if e, at := r.End(); e != api.OK || at != 0 {
		t.Errorf("whole: %d, %d", e, at)
	}
}

func TestWordsAreOfEightBytes(t *testing.T) {
	for _, c := range []struct {
		s    string
		want api.Errno
	}{{"12345678", api.OK}, {"1234567", api.ErrWord}, {"", api.ErrWord}, {"12345679", api.ErrWord}, {"123456789", api.ErrSize}} {
		var r Reader
		r.Must(Word("12345678"))
		if e := r.Read(inBytes(c.s)); e != c.want {
			t.Errorf("%q: %d, want %d", c.s, e, c.want)
		}
	}
}
