// Package expect: goes through bytes that come in pieces, by a list of what must come.
package expect

import (
	"slices"

	"nar/api"
	"nar/wire"
)

// maxWord: bytes of a word; the empty string behind exec is held against it too.
const maxWord = 8

// Item: a string that must come.
type Item struct {
	Most int                      // bytes that it may have
	Take func(s string) api.Errno // what it is handed to; tells whether it may stand there
}

// Word: just this one must come.
func Word(want string) Item {
	return Words(func(s string) api.Errno {
		if s != want {
			return api.ErrWord
		}
		return api.OK
	})
}

// Words: one of some words must come, which take tells apart.
func Words(take func(s string) api.Errno) Item { return Item{Most: maxWord, Take: take} }

// Reader: of bytes by a list.
type Reader struct {
	wire.Cutter
	list  []Item // the next one is the last, so that what follows from a string goes ahead of the rest
	e     api.Errno
	place int // of e
}

// Must: these come next, ahead of all that the list has already.
func (r *Reader) Must(l ...Item) {
	for _, x := range slices.Backward(l) {
		r.list = append(r.list, x)
	}
}

// Read: bytes more; the error that is sure by now. That the bytes end too soon never is: more may come.
func (r *Reader) Read(s string) api.Errno {
	if r.e != api.OK {
		return r.e
	}
	r.Add(s)
	for r.step() {
	}
	r.Trim()
	return r.e
}

// step: goes on by one string, if it can.
func (r *Reader) step() bool {
	last, place := len(r.list)-1, r.Place()
	if last < 0 {
		if r.Left() > 0 {
			r.fail(api.ErrRest, place)
		}
		return false
	}
	next := r.list[last]
	s, e := r.Cut(next.Most)
	if e == api.ErrEnd {
		return false
	}
	if e == api.OK {
		r.list = r.list[:last]
		e = next.Take(s)
	}
	if e != api.OK {
		r.fail(e, place)
	}
	return e == api.OK
}

// fail: the first error counts, so all else is let go.
func (r *Reader) fail(e api.Errno, place int) { *r = Reader{e: e, place: place} }

// End: the error of all bytes, now that no more come, and its place.
func (r *Reader) End() (api.Errno, int) {
	if len(r.list) > 0 {
		return api.ErrEnd, r.Place() + r.Left()
	}
	return r.e, r.place
}
