package nar

import (
	"encoding/binary"
	"fmt"
	"slices"
	"strings"
	"testing"

	"nar/api"
)

// told: what Close answers.
type told struct {
	l  []api.Node
	e  api.Errno
	at int
}

// String: in quotes, for the bytes in it may be any.
func (x told) String() string { return fmt.Sprintf("%#v, %d, %d", x.l, x.e, x.at) }

func (x told) same(y told) bool { return slices.Equal(x.l, y.l) && x.e == y.e && x.at == y.at }

// closeOf: what a new reader tells of these pieces.
func closeOf(t *testing.T, pieces ...string) told {
	t.Helper()
	r := NewReader()
	for _, s := range pieces {
		if e := r.Feed(s); e != api.OK {
			t.Fatalf("P3: Feed of %d bytes: %d", len(s), e)
		}
	}
	l, e, at := r.Close()
	return told{l, e, at}
}

// cut: s in pieces of n bytes.
func cut(s string, n int) []string {
	var out []string
	for len(s) > n {
		out = append(out, s[:n])
		s = s[n:]
	}
	return append(out, s)
}

// someCuts: the bytes as a whole, in pieces of several lengths, and with empty pieces between.
func someCuts(s string) [][]string {
	out := [][]string{{s}, {"", s, ""}, {s[:len(s)/2], "", "", s[len(s)/2:]}}
	for _, n := range []int{1, 2, 3, 5, 7, 8, 9, 15, 16, 17, 64, 100} {
		out = append(out, cut(s, n))
	}
	var gaps []string
	for _, p := range cut(s, 3) {
		gaps = append(gaps, "", p, "")
	}
	return append(out, gaps)
}

// wantTold: alike in all pieces.
func wantTold(t *testing.T, what, s string, want told) {
	t.Helper()
	for _, pieces := range someCuts(s) {
		if got := closeOf(t, pieces...); !got.same(want) {
			t.Errorf("P3: %.80q in %d pieces: %v, want %v", what, len(pieces), got, want)
			return
		}
	}
}

// wantFault: the string at the head of rest, behind right bytes, is wrong. It counts with no bytes behind it, and with any.
func wantFault(t *testing.T, what, ahead, rest string, e api.Errno) {
	t.Helper()
	for _, behind := range []string{"", "x", words(") ) )"), strings.Repeat("\xff", 300)} {
		wantTold(t, what, ahead+rest+behind, told{e: e, at: len(ahead)})
	}
}

// wantEnd: right bytes that end too soon.
func wantEnd(t *testing.T, what, s string) {
	t.Helper()
	wantTold(t, what, s, told{e: api.ErrEnd, at: len(s)})
}

// packed: of a tree that is one.
func packed(t *testing.T, l []api.Node) string {
	t.Helper()
	s, e, at := Pack(l)
	if e != api.OK {
		t.Fatalf("P2: %v: %d, %d", l, e, at)
	}
	return s
}

// inDir: the bytes up to where a name must come, in a root directory with files of these names.
func inDir(names ...string) string {
	out := words("nar-1 ( type dir")
	for _, s := range names {
		out += inBytes("entry", "(", "name", s, "node", "(", "type", "file", "data", "", ")", ")")
	}
	return out + words("entry ( name")
}

// down: a root directory and n-1 more, each in the one ahead, up to where a node must begin in the last.
func down(n int) string {
	out := words("nar-1 ( type dir entry ( name d node")
	for range n - 1 {
		out += words("( type dir entry ( name d node")
	}
	return out
}

// someTrees: of all kinds.
func someTrees() [][]api.Node {
	long := strings.Repeat("0123456789", 10)
	wide := strings.Repeat("\U0010FFFF", api.MaxName)
	return [][]api.Node{
		{file("", "")}, {file("", "hello")}, {exec("", "")}, {exec("", "run")}, {link("", "/x/../y")}, root(),
		{file("", "\x00\xff")}, {file("", long)}, {exec("", long)}, {link("", long)}, {link("", "\xff\x01")}, {file("", words("nar-1 ( type"))},
		root(dir("a")), files("a", "b", "c"), files("!", "A", "B", "a", "a-", "a.", "ab", "z", "é", "世", wide),
		root(dir("b"), exec("b/x", "run"), link("c", "b/x")),
		root(dir("a"), dir("a/a"), file("a/a/z", "1"), dir("a/b"), file("a/b/a", "2"), link("a/c", "3"), dir("a."), exec("a./x", "4"), file("z", "12345678")),
		root(dir("a"), file("a/x", ""), dir("b"), file("b/x", ""), file("x", "")),
		numbered(api.MaxNodes), nested(api.MaxDepth + 1), append(nested(api.MaxDepth+1), file("b", "x")),
	}
}

func TestReadWhatPackWrote(t *testing.T) {
	for _, l := range someTrees() {
		wantTold(t, "a tree", packed(t, l), told{l: l})
	}
}

func TestReadEveryShortTree(t *testing.T) {
	everyList(4, func(l []api.Node) {
		s, e, _ := Pack(l)
		if e != api.OK {
			return
		}
		for _, n := range []int{1, 11, len(s)} {
			if got := closeOf(t, cut(s, n)...); !got.same(told{l: l}) {
				t.Errorf("P3: %v in pieces of %d: %v", l, n, got)
			}
		}
	})
}

func TestReadInTwoPieces(t *testing.T) {
	l := root(dir("b"), exec("b/x", "run"), link("c", "b/x"))
	s := packed(t, l)
	for i := range len(s) + 1 {
		if got := closeOf(t, s[:i], s[i:]); !got.same(told{l: l}) {
			t.Errorf("P3: cut at %d: %v", i, got)
		}
	}
}

func TestReadAByteLessAndAByteMore(t *testing.T) {
	for _, l := range someTrees()[:16] {
		s := packed(t, l)
		for n := range len(s) {
			if got := closeOf(t, cut(s[:n], 13)...); !got.same(told{e: api.ErrEnd, at: n}) {
				t.Fatalf("P3: %d bytes of %v: %v", n, l, got)
			}
		}
		wantEnd(t, "a byte less", s[:len(s)-1])
		for _, rest := range []string{"\x00", "x", "\x00\x00\x00\x00\x00\x00\x00\x00", words(")"), s, strings.Repeat("\xff", 1000)} {
			wantTold(t, "bytes more", s+rest, told{e: api.ErrRest, at: len(s)})
		}
	}
}

func TestReadExamples(t *testing.T) {
	hello := words("nar-1 ( type file data hello )")
	wantTold(t, "nothing", "", told{e: api.ErrEnd, at: 0})
	wantTold(t, "a byte less", hello[:111], told{e: api.ErrEnd, at: 111})
	wantTold(t, "a byte more", hello+"\x00", told{e: api.ErrRest, at: 112})
	wantTold(t, "nar-2", words("nar-2"), told{e: api.ErrWord, at: 0})
	wantTold(t, "filled with 1", "\x05\x00\x00\x00\x00\x00\x00\x00\x6e\x61\x72\x2d\x31\x00\x00\x01", told{e: api.ErrPad, at: 0})
	wantTold(t, "ff eight times", "\xff\xff\xff\xff\xff\xff\xff\xff", told{e: api.ErrSize, at: 0})
	wantTold(t, "a/b", words("nar-1 ( type dir entry ( name a/b"), told{e: api.ErrName, at: 112})
	second := words("nar-1 ( type dir entry ( name b node ( type file data _ ) ) entry ( name")
	wantTold(t, "b, a", second+words("a"), told{e: api.ErrOrder, at: len(second)})
}

func TestReadNoPieces(t *testing.T) {
	if got := closeOf(t); !got.same(told{e: api.ErrEnd}) {
		t.Errorf("P3: no pieces: %v", got)
	}
	if got := closeOf(t, "", "", ""); !got.same(told{e: api.ErrEnd}) {
		t.Errorf("P3: empty pieces: %v", got)
	}
}

// wordPlaces: where a word must come, and which can.
var wordPlaces = []struct{ ahead, can string }{
	{"", "nar-1"},
	{"nar-1", "("},
	{"nar-1 (", "type"},
	{"nar-1 ( type", "file link dir"},
	{"nar-1 ( type file", "data exec"},
	{"nar-1 ( type file data hello", ")"},
	{"nar-1 ( type file exec", "_"},
	{"nar-1 ( type file exec _", "data"},
	{"nar-1 ( type file exec _ data run", ")"},
	{"nar-1 ( type link", "to"},
	{"nar-1 ( type link to x", ")"},
	{"nar-1 ( type dir", "entry )"},
	{"nar-1 ( type dir entry", "("},
	{"nar-1 ( type dir entry (", "name"},
	{"nar-1 ( type dir entry ( name a", "node"},
	{"nar-1 ( type dir entry ( name a node", "("},
	{"nar-1 ( type dir entry ( name a node (", "type"},
	{"nar-1 ( type dir entry ( name a node ( type dir )", ")"},
	{"nar-1 ( type dir entry ( name a node ( type file data x )", ")"},
	{"nar-1 ( type dir entry ( name a node ( type file data x ) )", "entry )"},
	{"nar-1 ( type dir entry ( name a node ( type dir entry ( name b node ( type link to x ) ) )", ")"},
	{"nar-1 ( type dir entry ( name a node ( type dir entry ( name b node ( type link to x ) ) ) )", "entry )"},
}

func TestReadWords(t *testing.T) {
	others := strings.Fields("nar-1 nar-2 ( ) type file link dir data exec to entry name node _ a NAR-1 Type typ types entries export-1 path refs ref sum end exec\x00 12345678 \x00")
	for _, p := range wordPlaces {
		ahead := words(p.ahead)
		can := strings.Fields(p.can)
		for _, s := range others {
			if !slices.Contains(can, s) {
				wantFault(t, p.ahead+" "+s, ahead, words(s), api.ErrWord)
				continue
			}
			in := ahead + words(s)
			if got := closeOf(t, in); got.e != api.OK && !got.same(told{e: api.ErrEnd, at: len(in)}) {
				t.Errorf("P3: %q: %v", p.ahead+" "+s, got)
			}
		}
		wantFault(t, p.ahead+" 9 bytes", ahead, words("123456789"), api.ErrSize)
	}
}

// stringPlace: where a string must come, how many bytes it may have, and one that is right there.
type stringPlace struct {
	ahead string
	most  int
	right string
}

func stringPlaces() []stringPlace {
	out := []stringPlace{
		{inDir(), 48, "b"}, {inDir("a"), 48, "b"},
		{words("nar-1 ( type file data"), 100, "x"}, {words("nar-1 ( type file exec _ data"), 100, "x"},
		{words("nar-1 ( type link to"), 100, "x"},
	}
	for _, p := range wordPlaces {
		out = append(out, stringPlace{words(p.ahead), 8, strings.TrimPrefix(strings.Fields(p.can)[0], "_")})
	}
	return out
}

func TestReadLengths(t *testing.T) {
	for _, p := range stringPlaces() {
		for _, n := range []uint64{uint64(p.most) + 1, uint64(p.most) + 7, 255, 256, 1 << 16, 1<<31 - 1, 1 << 31, 1 << 32, 1<<32 + 1, 1<<56 + 1, 1<<63 - 8, 1<<63 - 1, 1 << 63, 1<<63 + 1, 1<<64 - 16, 1<<64 - 8, 1<<64 - 7, 1<<64 - 1} {
			wantFault(t, p.ahead, p.ahead, string(binary.LittleEndian.AppendUint64(nil, n)), api.ErrSize)
		}
		for i := 1; i < 8; i++ {
			wrong := []byte(inBytes(p.right))
			wrong[i] = 1
			wantFault(t, p.ahead, p.ahead, string(wrong), api.ErrSize)
		}
		most := inBytes(strings.Repeat("x", p.most))
		wantEnd(t, "the most that may come, a byte less", p.ahead+most[:len(most)-1])
		wantEnd(t, "a length alone", p.ahead+most[:8])
		wantEnd(t, "a length less its last byte", p.ahead+"\xff\xff\xff\xff\xff\xff\xff")
	}
}

func TestReadFilling(t *testing.T) {
	for _, p := range stringPlaces() {
		right := inBytes(p.right)
		for i := 8 + len(p.right); i < len(right); i++ {
			for _, b := range []byte{1, 0x80, 0xff} {
				wrong := []byte(right)
				wrong[i] = b
				wantFault(t, p.ahead, p.ahead, string(wrong), api.ErrPad)
				wantEnd(t, "wrong filling, a byte less", p.ahead+string(wrong[:len(wrong)-1]))
			}
		}
	}
}

func TestReadNames(t *testing.T) {
	behind := words("node ( type file data _ ) ) )")
	for _, s := range []string{"a", " ", "~", "...", ".a", "..a", "entry", "(", "123456789012", "αβγδεζηθικλμ", strings.Repeat("\U0010FFFF", 12), "\u0080", "\uFFFD", "\ud7ff", "\\"} {
		wantTold(t, s, inDir()+inBytes(s)+behind, told{l: files(s)})
	}
	for _, s := range []string{
		"", ".", "..", "/", "a/b", "/a", "a/", "\x00", "a\x00", "\x1f", "a\x1fb", "\x7f", "a\x7f", "\n",
		"1234567890123", strings.Repeat("a", 48), "αβγδεζηθικλμν", strings.Repeat("世", 13),
		"\xce", "\xb1", "a\xff", "\xc0\xaf", "\xed\xa0\x80", "\xf4\x90\x80\x80", "\xf0\x9f\x8c", "\uFFFD\x80",
	} {
		wantFault(t, "name "+s, inDir(), inBytes(s), api.ErrName)
		wantFault(t, "second name "+s, inDir("\U0010FFFF"), inBytes(s), api.ErrName)
		wantFault(t, "name further in "+s, words("nar-1 ( type dir entry ( name a node ( type dir entry ( name"), inBytes(s), api.ErrName)
	}
	wantFault(t, "49 bytes", inDir(), inBytes(strings.Repeat("a", 49)), api.ErrSize)
	wantFault(t, "13 letters of 4 bytes", inDir(), inBytes(strings.Repeat("\U0010FFFF", 13)), api.ErrSize)
}

func TestReadOrder(t *testing.T) {
	for _, c := range [][]string{{"b", "a"}, {"a", "a"}, {"a", "B"}, {"ab", "a"}, {"é", "z"}, {"a", "c", "b"}, {"a", "b", "a"}, {"10", "9", "8"}, {"a.", "a"}} {
		last := len(c) - 1
		wantFault(t, strings.Join(c, " "), inDir(c[:last]...), inBytes(c[last]), api.ErrOrder)
	}
	two := words("nar-1 ( type dir entry ( name m node ( type dir entry ( name b node ( type dir ) )")
	wantFault(t, "further in", two+words("entry ( name"), words("a"), api.ErrOrder)
	wantFault(t, "behind a directory", two+words(") ) entry ( name"), words("m"), api.ErrOrder)
	wantFault(t, "behind what is in a directory", two+words(") ) entry ( name"), words("b"), api.ErrOrder)
	wantTold(t, "each begins anew", two+words(") ) entry ( name n node ( type dir entry ( name a node ( type dir ) ) ) ) )"), told{l: root(dir("m"), dir("m/b"), dir("n"), dir("n/a"))})
}

func TestReadData(t *testing.T) {
	full := strings.Repeat("x", api.MaxData)
	for _, kind := range []string{"file data", "file exec _ data", "link to"} {
		ahead := words("nar-1 ( type " + kind)
		if got := closeOf(t, ahead+inBytes(full, ")")); got.e != api.OK || len(got.l) != 1 || got.l[0].Data != full {
			t.Errorf("P3: %s: %v", kind, got)
		}
		wantFault(t, kind, ahead, inBytes(full+"x"), api.ErrSize)
	}
	for _, s := range []string{"", "\x00", "a\x00", "\x00a", "a\x00b", full[1:] + "\x00"} {
		wantFault(t, "link "+s, words("nar-1 ( type link to"), inBytes(s), api.ErrName)
		wantTold(t, "file "+s, inBytes("nar-1", "(", "type", "file", "data", s, ")"), told{l: []api.Node{file("", s)}})
		wantTold(t, "exec "+s, inBytes("nar-1", "(", "type", "file", "exec", "", "data", s, ")"), told{l: []api.Node{exec("", s)}})
	}
	wantFault(t, "a link of zeros, too long", words("nar-1 ( type link to"), inBytes(strings.Repeat("\x00", 101)), api.ErrSize)
}

func TestReadDepth(t *testing.T) {
	for _, node := range []string{"( type file data _ )", "( type dir )", "( type link to x )"} {
		s := down(api.MaxDepth) + words(node) + words(strings.Repeat(") ) ", api.MaxDepth))
		if got := closeOf(t, s); got.e != api.OK || len(got.l) != api.MaxDepth+1 {
			t.Errorf("P3: %d directories above %s: %v", api.MaxDepth, node, got)
		}
		wantFault(t, "deeper", down(api.MaxDepth+1), words(node), api.ErrDeep)
	}
	wantFault(t, "its bracket alone", down(api.MaxDepth+1), words("("), api.ErrDeep)
	wantFault(t, "another word", down(api.MaxDepth+1), words(")"), api.ErrWord)
	wantEnd(t, "no bracket", down(api.MaxDepth+1))
	wantEnd(t, "a byte of its bracket less", down(api.MaxDepth+1)+words("(")[:15])
}

func TestReadDepthOfDirectoriesThatAreOver(t *testing.T) {
	l := root()
	for _, s := range []string{"a", "b", "c"} {
		l = append(l, dir(s), dir(s+"/d"), dir(s+"/d/d"), dir(s+"/d/d/d"), dir(s+"/d/d/d/d"), file(s+"/e", ""))
	}
	wantTold(t, "down and up again", packed(t, l), told{l: l})
}

func TestReadManyNodes(t *testing.T) {
	for n := 1; n <= api.MaxNodes; n++ {
		l := numbered(n)
		wantTold(t, "as many as may be", packed(t, l), told{l: l})
	}
	full := packed(t, numbered(api.MaxNodes))
	ahead := full[:len(full)-16] + words("entry ( name z node")
	wantFault(t, "one more", ahead, words("("), api.ErrMany)
	wantFault(t, "one more, another word", ahead, words(")"), api.ErrWord)
	wantEnd(t, "one more, no bracket", ahead)

	few := packed(t, numbered(api.MaxNodes-api.MaxDepth))
	both := few[:len(few)-16]
	for range api.MaxDepth {
		both += words("entry ( name z node ( type dir")
	}
	wantFault(t, "deep and many", both+words("entry ( name z node"), words("("), api.ErrDeep)
	wantFault(t, "many, not deep", both+words(") ) entry ( name zz node"), words("("), api.ErrMany)
}

func TestReadWhichErrorComesFirst(t *testing.T) {
	wantTold(t, "a length ahead of the bytes that are not there", words("nar-1")+"\x09\x00\x00\x00\x00\x00\x00\x00", told{e: api.ErrSize, at: 16})
	wantTold(t, "bytes that are not there ahead of another word", "\x05\x00\x00\x00\x00\x00\x00\x00nar-2\x00\x00", told{e: api.ErrEnd, at: 15})
	wantTold(t, "bytes that are not there ahead of the filling", "\x05\x00\x00\x00\x00\x00\x00\x00nar-1\x01\x01", told{e: api.ErrEnd, at: 15})
	wantTold(t, "bytes that are not there ahead of a name", inDir()+inBytes("..")[:15], told{e: api.ErrEnd, at: len(inDir()) + 15})
	wantFault(t, "filling ahead of another word", "", "\x05\x00\x00\x00\x00\x00\x00\x00nar-2\x00\x00\x01", api.ErrPad)
	wantFault(t, "filling ahead of a name", inDir(), "\x02\x00\x00\x00\x00\x00\x00\x00..\x00\x00\x00\x00\x00\x01", api.ErrPad)
	wantFault(t, "filling ahead of the order", inDir("b"), "\x01\x00\x00\x00\x00\x00\x00\x00a\x00\x00\x00\x00\x00\x00\x01", api.ErrPad)
	wantFault(t, "filling ahead of the depth", down(api.MaxDepth+1), "\x01\x00\x00\x00\x00\x00\x00\x00(\x00\x00\x00\x00\x00\x00\x01", api.ErrPad)
	wantFault(t, "filling ahead of where a link leads", words("nar-1 ( type link to"), "\x01\x00\x00\x00\x00\x00\x00\x00\x00\x00\x00\x00\x00\x00\x00\x01", api.ErrPad)
	wantFault(t, "a length ahead of a name", inDir(), inBytes(strings.Repeat("/", 49)), api.ErrSize)
	wantFault(t, "a name ahead of the order", inDir("b"), inBytes("a/"), api.ErrName)
	wantFault(t, "a word ahead of a later one", words("nar-1"), words("x x"), api.ErrWord)
	wantFault(t, "a word ahead of a later length", words("nar-1"), words("x")+"\xff\xff\xff\xff\xff\xff\xff\xff", api.ErrWord)
	wantFault(t, "a name ahead of the depth behind it", down(api.MaxDepth)+words("( type dir entry ( name"), words(". node ("), api.ErrName)
}

func TestReaderThatIsClosed(t *testing.T) {
	for _, s := range []string{"", "x", packed(t, root()), packed(t, files("a")), words("nar-2"), strings.Repeat("\xff", 1000)} {
		r := NewReader()
		r.Feed(s)
		_, first, _ := r.Close()
		for range 3 {
			for _, more := range []string{"", "x", s} {
				if e := r.Feed(more); e != api.ErrClosed {
					t.Errorf("P3: %.40q, then %.40q: %d", s, more, e)
				}
			}
			if l, e, at := r.Close(); len(l) != 0 || e != api.ErrClosed || at != 0 {
				t.Errorf("P3: %.40q, %d, closed: %v, %d, %d", s, first, l, e, at)
			}
		}
	}
}

func TestReaderFedAfterAnErrorIsOpen(t *testing.T) {
	r := NewReader()
	for _, s := range []string{words("nar-2"), "", "x", words("nar-1 ( type dir )"), strings.Repeat("\xff", 1_000_000)} {
		if e := r.Feed(s); e != api.OK {
			t.Errorf("P3: %.40q: %d", s, e)
		}
	}
	if l, e, at := r.Close(); len(l) != 0 || e != api.ErrWord || at != 0 {
		t.Errorf("P3: %v, %d, %d", l, e, at)
	}
}

func TestReadersThatNobodyMade(t *testing.T) {
	for _, r := range []*Reader{nil, {}} {
		if e := r.Feed("x"); e != api.ErrClosed {
			t.Errorf("P1: Feed: %d", e)
		}
		if l, e, at := r.Close(); len(l) != 0 || e != api.ErrClosed || at != 0 {
			t.Errorf("P1: Close: %v, %d, %d", l, e, at)
		}
	}
}

func TestReadersSideBySide(t *testing.T) {
	trees := someTrees()
	readers := make([]*Reader, len(trees))
	rest := make([]string, len(trees))
	for i, l := range trees {
		readers[i], rest[i] = NewReader(), packed(t, l)
	}
	wrong := NewReader()
	for left := true; left; {
		left = false
		wrong.Feed("x")
		for i, r := range readers {
			n := min(5+i, len(rest[i]))
			r.Feed(rest[i][:n])
			rest[i] = rest[i][n:]
			left = left || rest[i] != ""
		}
	}
	wrong.Close()
	for i, r := range readers {
		l, e, at := r.Close()
		if got := (told{l, e, at}); !got.same(told{l: trees[i]}) {
			t.Errorf("P1: tree %d: %v", i, got)
		}
	}
}

func TestReadListsAreNew(t *testing.T) {
	s := packed(t, files("a", "b"))
	p, q := NewReader(), NewReader()
	p.Feed(s)
	q.Feed(s)
	l, _, _ := p.Close()
	for i := range l[:cap(l)] {
		l[:cap(l)][i] = link("w", "w")
	}
	m, _, _ := q.Close()
	if want := files("a", "b"); !slices.Equal(m, want) {
		t.Errorf("P1: %v, want %v", m, want)
	}
	if got := closeOf(t, s); !got.same(told{l: files("a", "b")}) {
		t.Errorf("P1: read again: %v", got)
	}
	if !slices.Equal(l, []api.Node{link("w", "w"), link("w", "w"), link("w", "w")}) {
		t.Errorf("P1: somebody else wrote: %v", l)
	}
}
