package wire

import (
	"slices"

	"metronome/api"
)

// lastShift is where a tenth digit stands: 64 bits have room for one bit of it.
const lastShift = 63

// Reader reads forms, one behind the other.
type Reader struct {
	left []byte
	// A reader of no bytes at all must differ from a zero one.
	open bool
}

// Open is a reader at the beginning of a copy of b: what b becomes later is not seen.
func Open(b []byte) *Reader {
	return &Reader{left: slices.Clone(b), open: true}
}

// Left is how many bytes there are behind where the reader is.
func (r *Reader) Left() int {
	if !r.isOpen() {
		return 0
	}
	return len(r.left)
}

// End is OK, if all bytes have been read.
func (r *Reader) End() api.Errno {
	if !r.isOpen() {
		return api.ErrNil
	}
	if len(r.left) > 0 {
		return api.ErrBytes
	}
	return api.OK
}

// Number reads what Number writes.
func (r *Reader) Number() (uint64, api.Errno) {
	return whole(r, (*Reader).number)
}

// Signed reads what Signed writes.
func (r *Reader) Signed() (int64, api.Errno) {
	return whole(r, (*Reader).signed)
}

// Flag reads what Flag writes.
func (r *Reader) Flag() (bool, api.Errno) {
	return whole(r, (*Reader).flag)
}

// Bytes reads what Bytes writes, of at most so many bytes.
func (r *Reader) Bytes(most int) ([]byte, api.Errno) {
	return whole(r, func(r *Reader) ([]byte, api.Errno) { return r.bytes(most) })
}

// Take reads what Put writes, of at most so many things, each by one.
func Take[T any](r *Reader, most int, one func(*Reader) (T, api.Errno)) ([]T, api.Errno) {
	if one == nil {
		return nil, api.ErrNil
	}
	return whole(r, func(r *Reader) ([]T, api.Errno) { return things(r, most, one) })
}

func (r *Reader) isOpen() bool {
	return r != nil && r.open
}

// whole reads by read, all of it or nothing: beside an error the reader is as it was, and the answer is zero.
func whole[T any](r *Reader, read func(*Reader) (T, api.Errno)) (T, api.Errno) {
	var none T
	if !r.isOpen() {
		return none, api.ErrNil
	}
	start := *r
	got, err := read(r)
	if err != api.OK {
		*r = start
		return none, err
	}
	return got, api.OK
}

func (r *Reader) next() (byte, bool) {
	if len(r.left) == 0 {
		return 0, false
	}
	b := r.left[0]
	r.left = r.left[1:]
	return b, true
}

func (r *Reader) number() (uint64, api.Errno) {
	var n uint64
digits:
	for shift := 0; ; shift += digitBits {
		b, ok := r.next()
		switch {
		case !ok:
			break digits
		case shift == lastShift && b > 1:
			// Above 2^64 - 1, or an eleventh byte would have to come.
			break digits
		case shift > 0 && b == 0:
			// A shorter form of the same number is there.
			break digits
		case b < base:
			n |= uint64(b) << shift
			return n, api.OK
		}
		n |= uint64(b-base) << shift
	}
	return 0, api.ErrBytes
}

func (r *Reader) signed() (int64, api.Errno) {
	n, err := r.number()
	if err != api.OK {
		return 0, err
	}
	half := int64(n >> 1)
	if n%2 == 1 {
		return ^half, api.OK
	}
	return half, api.OK
}

func (r *Reader) flag() (bool, api.Errno) {
	b, ok := r.next()
	if !ok || b > 1 {
		return false, api.ErrBytes
	}
	return b == 1, api.OK
}

// count reads how many come, of at most so many.
func (r *Reader) count(most int) (uint64, api.Errno) {
	if most < 0 {
		return 0, api.ErrArg
	}
	n, err := r.number()
	if err != api.OK {
		return 0, err
	}
	if n > uint64(most) {
		return 0, api.ErrLong
	}
	return n, api.OK
}

func (r *Reader) bytes(most int) ([]byte, api.Errno) {
	n, err := r.count(most)
	if err != api.OK {
		return nil, err
	}
	if n > uint64(len(r.left)) {
		return nil, api.ErrBytes
	}
	b := slices.Clone(r.left[:n])
	r.left = r.left[n:]
	return b, api.OK
}

func things[T any](r *Reader, most int, one func(*Reader) (T, api.Errno)) ([]T, api.Errno) {
	n, err := r.count(most)
	if err != api.OK {
		return nil, err
	}
	// The list grows by what is read: how many are announced may be far more than what is there.
	var l []T
	for range n {
		x, err := one(r)
		if err != api.OK {
			return nil, err
		}
		l = append(l, x)
	}
	return l, api.OK
}
