package inbox

import (
	"bytes"

	"conduit/api"
)

// Box is bytes that have come, out of which things are read.
type Box[T any] struct {
	read  func(b []byte) (T, int, api.Errno)
	come  []byte
	errno api.Errno
}

// New: an empty box.
func New[T any](read func(b []byte) (T, int, api.Errno)) *Box[T] {
	return &Box[T]{read: read}
}

// Feed: puts bytes in.
func (x *Box[T]) Feed(b []byte) {
	if x.errno == api.OK {
		x.come = append(x.come, b...)
	}
}

// Next: the next thing.
func (x *Box[T]) Next() (T, bool, api.Errno) {
	var none T
	if x.errno != api.OK {
		return none, false, x.errno
	}
	value, length, e := x.ask()
	if e != api.OK {
		x.errno = e
		return none, false, e
	}
	if length <= 0 {
		return none, false, api.OK
	}
	x.take(length)
	return value, true, api.OK
}

// Rest: the bytes that are there.
func (x *Box[T]) Rest() []byte {
	return bytes.Clone(x.come)
}

// ask: what the reading function answers.
func (x *Box[T]) ask() (value T, length int, e api.Errno) {
	// No call panics, whatever it was given: a reading function that does, or that is nil, has read nothing.
	defer func() { _ = recover() }()
	return x.read(bytes.Clone(x.come))
}

// take: takes so many bytes away from the beginning.
func (x *Box[T]) take(length int) {
	// What stays moves to memory of its own, so that the box doesn't keep what was read.
	x.come = bytes.Clone(x.come[min(length, len(x.come)):])
}
