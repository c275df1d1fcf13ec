// Package wire is layer 1: numbers, flags, texts and lists as bytes, in one form each, and these read again. See shared/doc/01-wire.md.
package wire

import "metronome/api"

const (
	base      = 128
	digitBits = 7
)

// Number is the form of n: its digits to the base 128, the lowest first.
func Number(n uint64) []byte {
	var form []byte
	for n >= base {
		form = append(form, byte(n%base)+base)
		n >>= digitBits
	}
	return append(form, byte(n))
}

// Signed is the form of 2 n, if n is 0 or above, else of -2 n - 1.
func Signed(n int64) []byte {
	if n < 0 {
		// ^n is -n - 1: the least number has one of these, but no -n.
		return Number(uint64(^n)*2 + 1)
	}
	return Number(uint64(n) * 2)
}

// Flag is the byte 0 or 1.
func Flag(is bool) []byte {
	if is {
		return []byte{1}
	}
	return []byte{0}
}

// Bytes is the form of how many b has, then b.
func Bytes(b []byte) []byte {
	return Join(Number(uint64(len(b))), b)
}

// Join is all bytes of l, one behind the other.
func Join(l ...[]byte) []byte {
	var all []byte
	for _, b := range l {
		all = append(all, b...)
	}
	return all
}

// Put is the form of how many l has, then of each what form answers; ErrNil without a function.
func Put[T any](l []T, form func(T) []byte) ([]byte, api.Errno) {
	if form == nil {
		return nil, api.ErrNil
	}
	all := Number(uint64(len(l)))
	for _, x := range l {
		all = append(all, form(x)...)
	}
	return all, api.OK
}
