// Package varnum is layer 1: numbers and texts as bytes. See shared/doc/01-varnum.md.
package varnum

import (
	"bytes"

	"incunable/api"
)

// A byte holds one digit, and base more than it where another digit follows; the greatest number has mostDigits of them.
const (
	digitBits  = 7
	base       = 1 << digitBits
	mostDigits = 8
)

// Num is a number's bytes.
func Num(n int) ([]byte, api.Errno) {
	if n < 0 || n > api.MaxNumber {
		return nil, api.ErrArg
	}
	return digits(n), api.OK
}

// TakeNum takes a number off the beginning of bytes.
func TakeNum(b []byte) (n int, rest []byte, e api.Errno) {
	n, size, e := head(b)
	if e != api.OK {
		return 0, nil, e
	}
	return n, bytes.Clone(b[size:]), api.OK
}

// Text is a text's bytes, if it has at most so many.
func Text(t []byte, most int) ([]byte, api.Errno) {
	if most < 0 {
		return nil, api.ErrArg
	}
	if len(t) > most {
		return nil, api.ErrLimit
	}
	return Join(digits(len(t)), t), api.OK
}

// TakeText takes a text of at most so many bytes off the beginning of bytes.
func TakeText(b []byte, most int) (t, rest []byte, e api.Errno) {
	if most < 0 {
		return nil, nil, api.ErrArg
	}
	n, size, e := head(b)
	if e != api.OK {
		return nil, nil, e
	}
	if n > most {
		return nil, nil, api.ErrLimit
	}
	// The number is held against what is left, never added to a place: a great one can't run over.
	left := b[size:]
	if n > len(left) {
		return nil, nil, api.ErrTrunc
	}
	return bytes.Clone(left[:n]), bytes.Clone(left[n:]), api.OK
}

// Join is bytes one behind the other.
func Join(l ...[]byte) []byte {
	size := 0
	for _, b := range l {
		size += len(b)
	}
	all := make([]byte, 0, size)
	for _, b := range l {
		all = append(all, b...)
	}
	return all
}

// digits are the bytes of what is known to be a number. (The length of any list is one: no memory has 2^53 bytes.)
func digits(n int) []byte {
	b := make([]byte, 0, mostDigits)
	for ; n >= base; n /= base {
		b = append(b, byte(base+n%base))
	}
	return append(b, byte(n))
}

// head is the number that bytes begin with, and how many bytes it has there. It copies nothing, so that both takers copy what is left just once.
func head(b []byte) (n, size int, e api.Errno) {
	size, e = extent(b)
	if e != api.OK {
		return 0, 0, e
	}
	if size > 1 && b[size-1] == 0 {
		// A highest digit 0 would give a number two ways to be written.
		return 0, 0, api.ErrSyntax
	}
	n = value(b[:size])
	if n > api.MaxNumber {
		return 0, 0, api.ErrSyntax
	}
	return n, size, api.OK
}

// extent is how many bytes a number has, by its last byte, the first one below base.
func extent(b []byte) (size int, e api.Errno) {
	e = api.ErrTrunc
number:
	for i, c := range b {
		switch {
		case c < base:
			size, e = i+1, api.OK
			break number
		case i+1 == mostDigits:
			e = api.ErrSyntax
			break number
		}
	}
	return size, e
}

// value is what a number's bytes make. (Eight have 56 bits: no int runs over.)
func value(b []byte) int {
	n := 0
	for i, c := range b {
		n |= int(c%base) << (digitBits * i)
	}
	return n
}
