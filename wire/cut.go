package wire

import "nar/api"

// Cutter: cuts strings out of bytes that come in pieces.
type Cutter struct {
	left []byte // those that have come and are not cut out yet
	at   int    // how many have been cut out
}

// Add: bytes more.
func (c *Cutter) Add(s string) { c.left = append(c.left, s...) }

// Place: where the next string begins.
func (c *Cutter) Place() int { return c.at }

// Left: how many bytes have come behind what is cut out.
func (c *Cutter) Left() int { return len(c.left) }

// Trim: lets go of the bytes that are cut out: those that are left lie in one room with them.
func (c *Cutter) Trim() { c.left = append([]byte(nil), c.left...) }

// Cut: the next string, of at most so many bytes. With ErrEnd it has not come whole: it can be asked for again when more has come.
func (c *Cutter) Cut(most int) (string, api.Errno) {
	if len(c.left) < word {
		return "", api.ErrEnd
	}
	size := number(c.left[:word:word])
	if size > uint64(most) { // ahead of the int: the length may be beyond it
		return "", api.ErrSize
	}
	end := word + int(size)
	whole := end + filling(end)
	if len(c.left) < whole {
		return "", api.ErrEnd
	}
	s, fill := c.left[word:end:end], c.left[end:whole:whole]
	if !allZero(fill) {
		return "", api.ErrPad
	}
	c.left = c.left[whole:]
	c.at += whole
	return string(s), api.OK
}

// number: of eight bytes, the lowest first.
func number(b []byte) uint64 {
	n := uint64(0)
	for i := range word {
		n |= uint64(b[i]) << (8 * i)
	}
	return n
}

func allZero(b []byte) bool {
	for _, x := range b {
		if x != 0 {
			return false
		}
	}
	return true
}
