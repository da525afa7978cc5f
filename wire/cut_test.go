package wire

import (
	"strings"
	"testing"

	"nar/api"
)

func TestCutOfEveryLength(t *testing.T) {
	for n := range 120 {
		s := strings.Repeat("\xff", n)
		in := string(Append(nil, s))
		for _, most := range []int{0, n - 1, n, n + 1, 1000} {
			if most < 0 {
				continue
			}
			var c Cutter
			c.Add(in + "behind")
			got, e := c.Cut(most)
			if n > most {
				if got != "" || e != api.ErrSize || c.Place() != 0 || c.Left() != len(in)+6 {
					t.Errorf("%d bytes of %d: %q, %d", n, most, got, e)
				}
				continue
			}
			if got != s || e != api.OK || c.Place() != len(in) || c.Left() != 6 {
				t.Errorf("%d bytes of %d: %q, %d, at %d, %d left", n, most, got, e, c.Place(), c.Left())
			}
		}
	}
}

func TestCutInPieces(t *testing.T) {
	in := string(Append(nil, "", "x", "12345678", "123456789"))
	for n := 1; n <= len(in); n++ {
		var c Cutter
		var got []string
		for rest := in; rest != ""; rest = rest[min(n, len(rest)):] {
			c.Add(rest[:min(n, len(rest))])
			for s, e := c.Cut(9); e == api.OK; s, e = c.Cut(9) {
				got = append(got, s)
			}
			c.Trim()
		}
		if strings.Join(got, ",") != ",x,12345678,123456789" || c.Left() != 0 || c.Place() != len(in) {
			t.Errorf("pieces of %d: %q, at %d, %d left", n, got, c.Place(), c.Left())
		}
	}
}

func TestCutWhatHasNotCome(t *testing.T) {
	in := string(Append(nil, "12345"))
	var c Cutter
	for i := range in {
		if s, e := c.Cut(8); s != "" || e != api.ErrEnd || c.Left() != i || c.Place() != 0 {
			t.Errorf("%d bytes: %q, %d, %d left", i, s, e, c.Left())
		}
		c.Add(in[i : i+1])
	}
	if s, e := c.Cut(8); s != "12345" || e != api.OK {
		t.Errorf("whole: %q, %d", s, e)
	}
}

func TestCutFilling(t *testing.T) {
	in := Append(nil, "12345")
	for i := 13; i < 16; i++ {
		for _, b := range []byte{1, '0', 0x80, 0xff} {
			wrong := []byte(string(in))
			wrong[i] = b
			var c Cutter
			c.Add(string(wrong))
			if s, e := c.Cut(8); s != "" || e != api.ErrPad || c.Place() != 0 {
				t.Errorf("byte %d is %d: %q, %d", i, b, s, e)
			}
		}
	}
}

func TestCutLengthsBeyondInt(t *testing.T) {
	for i := range 8 {
		for _, b := range []byte{0x7f, 0x80, 0xff} {
			in := []byte("\x05\x00\x00\x00\x00\x00\x00\x00nar-1\x00\x00\x00")
			in[i] = b
			var c Cutter
			c.Add(string(in))
			if s, e := c.Cut(100); s != "" || e != api.ErrSize {
				t.Errorf("byte %d is %d: %q, %d", i, b, s, e)
			}
		}
	}
}

func TestTrimKeepsNoRoom(t *testing.T) {
	var c Cutter
	c.Add(string(Append(nil, strings.Repeat("x", 10_000))) + "abc")
	c.Cut(10_000)
	c.Trim()
	if cap(c.left) > 100 || string(c.left) != "abc" {
		t.Errorf("room for %d: %q", cap(c.left), c.left)
	}
}
