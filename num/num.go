// Package num is layer 1: numbers and texts as bytes.
package num

import (
	"chantry/api"
)

const (
	groupBits = 7              // what a byte holds of a number
	more      = 1 << groupBits // stands in each of a number's bytes but the last one
	maxGroups = 5              // MaxNum has so many
	maxWide   = 4
)

func isNumber(n int) bool {
	return n >= 0 && n <= api.MaxNum
}

// Put answers a number's bytes, or ErrArg of what is no number.
func Put(n int) ([]byte, api.Errno) {
	if !isNumber(n) {
		return nil, api.ErrArg
	}
	b := make([]byte, 0, maxGroups)
	for n >= more {
		b = append(b, byte(n%more+more))
		n /= more
	}
	return append(b, byte(n)), api.OK
}

// Get answers the number at the beginning of b, and how many bytes it has there, or ErrForm.
func Get(b []byte) (int, int, api.Errno) {
	var n uint64 // so many groups may be more than an int of 32 bits holds
	for i := range min(len(b), maxGroups) {
		n |= uint64(b[i]%more) << (groupBits * i)
		if b[i] >= more {
			continue
		}
		// A last group of 0 is one byte too many: there is one way to put a number.
		if n > api.MaxNum || i > 0 && b[i] == 0 {
			break
		}
		return int(n), i + 1, api.OK
	}
	return 0, 0, api.ErrForm
}

// Text answers a text's bytes: how many it has, then these. It answers ErrLong of more than MaxBytes.
func Text(b []byte) ([]byte, api.Errno) {
	if len(b) > api.MaxBytes {
		return nil, api.ErrLong
	}
	head, _ := Put(len(b)) // MaxBytes is a number, and so is what is less
	return append(head, b...), api.OK
}

// Fix answers a number in just wide bytes, the lowest first, or ErrArg if it does not fit.
func Fix(n, wide int) ([]byte, api.Errno) {
	if wide < 1 || wide > maxWide || !isNumber(n) || uint64(n)>>(8*wide) != 0 {
		return nil, api.ErrArg
	}
	b := make([]byte, wide)
	for i := range b {
		b[i] = byte(n >> (8 * i))
	}
	return b, api.OK
}

// Unfix answers the number that Fix put into b: ErrArg unless b has 1 to 4 bytes, ErrForm above MaxNum.
func Unfix(b []byte) (int, api.Errno) {
	if len(b) < 1 || len(b) > maxWide {
		return 0, api.ErrArg
	}
	var n uint64
	for i, x := range b {
		n |= uint64(x) << (8 * i)
	}
	if n > api.MaxNum {
		return 0, api.ErrForm
	}
	return int(n), api.OK
}
