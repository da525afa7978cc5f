package wire

import (
	"encoding/binary"
	"hash/fnv"
	"strings"
	"testing"
)

func TestAppendToTheByte(t *testing.T) {
	for _, c := range []struct{ s, want string }{
		{"", "\x00\x00\x00\x00\x00\x00\x00\x00"},
		{"a", "\x01\x00\x00\x00\x00\x00\x00\x00a\x00\x00\x00\x00\x00\x00\x00"},
		{"nar-1", "\x05\x00\x00\x00\x00\x00\x00\x00nar-1\x00\x00\x00"},
		{"1234567", "\x07\x00\x00\x00\x00\x00\x00\x001234567\x00"},
		{"12345678", "\x08\x00\x00\x00\x00\x00\x00\x0012345678"},
		{"123456789", "\x09\x00\x00\x00\x00\x00\x00\x00123456789\x00\x00\x00\x00\x00\x00\x00"},
		{"\xff\x00", "\x02\x00\x00\x00\x00\x00\x00\x00\xff\x00\x00\x00\x00\x00\x00\x00"},
	} {
		if got := string(Append(nil, c.s)); got != c.want {
			t.Errorf("%q: %q, want %q", c.s, got, c.want)
		}
	}
}

func TestAppendOfEveryLength(t *testing.T) {
	for n := range 70_000 {
		if n > 600 && n%4096 > 9 {
			continue
		}
		s := strings.Repeat("\xff", n)
		got := string(Append(nil, s))
		fill := got[8+n:]
		if binary.LittleEndian.Uint64([]byte(got)) != uint64(n) || got[8:8+n] != s {
			t.Errorf("%d bytes: wrong length or bytes", n)
		}
		if len(got)%8 != 0 || len(fill) > 7 || strings.Trim(fill, "\x00") != "" {
			t.Errorf("%d bytes: filled up by %q", n, fill)
		}
	}
}

func TestAppendOfSeveral(t *testing.T) {
	want := "ahead" + string(Append(nil, "x")) + string(Append(nil, "")) + string(Append(nil, "123456789"))
	if got := string(Append([]byte("ahead"), "x", "", "123456789")); got != want {
		t.Errorf("%q, want %q", got, want)
	}
	if got := Append(nil); len(got) != 0 {
		t.Errorf("no strings: %q", got)
	}
}

func TestSumOfMany(t *testing.T) {
	every := make([]byte, 256)
	for i := range every {
		every[i] = byte(i)
	}
	for _, s := range []string{"", "a", "\x00", "\x00\x00", "\xff", "α", "\xce", string(every), strings.Repeat(string(every), 40)} {
		h := fnv.New64a()
		h.Write([]byte(s))
		want := string(binary.LittleEndian.AppendUint64(nil, h.Sum64()))
		if got := Sum(s); got != want {
			t.Errorf("Sum(%.20q) = %x, want %x", s, got, want)
		}
	}
}
