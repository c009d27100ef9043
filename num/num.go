// Package num writes numbers as bytes, in one way only. It is layer 1: see shared/doc/01-num.md.
package num

import (
	"cmp"
	"iter"
	"math"

	"fermata/api"
)

// Limits.
const (
	Small   = 246
	MaxSize = 9
)

// Errors.
const (
	ErrShort api.Errno = 10 // too few bytes
	ErrForm  api.Errno = 11 // bytes that are no form
	ErrRange api.Errno = 12 // a number that is not within its limits
)

// digits are those of a number in base 256, the lowest one last.
type digits [MaxSize - 1]byte

// digitsOf returns the digits of a number, and where the first one is that is not 0.
func digitsOf(x uint64) (digits, int) {
	var d digits
	first := len(d)
	for ; x > 0; x >>= 8 {
		first--
		d[first] = byte(x)
	}
	return d, first
}

// Size returns how many bytes the form of a number has.
func Size(x uint64) int {
	if x <= Small {
		return 1
	}
	d, first := digitsOf(x)
	return 1 + len(d[first:])
}

// Append appends the form of a number.
func Append(b []byte, x uint64) []byte {
	if x <= Small {
		return append(b, byte(x))
	}
	d, first := digitsOf(x)
	b = append(b, byte(Small+len(d[first:])))
	return append(b, d[first:]...)
}

// Read reads a form at an offset.
func Read(b []byte, at int) (uint64, int, api.Errno) {
	if at < 0 || at > len(b) {
		return 0, 0, api.ErrArg
	}
	count, e := told(b[at:])
	if e != api.OK {
		return 0, 0, e
	}
	if count == 0 {
		return uint64(b[at]), 1, api.OK
	}
	x, right := number(b[at+1 : at+1+count])
	if !right {
		return 0, 0, ErrForm
	}
	return x, 1 + count, api.OK
}

// told returns how many digits the first byte tells of, if there are so many.
func told(b []byte) (int, api.Errno) {
	if len(b) == 0 {
		return 0, ErrShort
	}
	count := max(int(b[0])-Small, 0)
	if count >= MaxSize {
		return 0, ErrForm
	}
	if len(b) <= count {
		return 0, ErrShort
	}
	return count, api.OK
}

// number returns the number with the digits of a form, and whether they are right.
func number(all []byte) (uint64, bool) {
	var x uint64
	read := 0
reading:
	for ; read < len(all); read++ {
		digit := all[read]
		switch {
		case read > 0: // only the first digit can tell of a shorter form
		case digit == 0:
			break reading
		case len(all) == 1 && digit <= Small:
			break reading
		}
		x = x<<8 | uint64(digit)
	}
	return x, read == len(all)
}

// Last reads bytes that are one form.
func Last(b []byte) (uint64, int, api.Errno) {
	x, size, e := Read(b, 0)
	if e != api.OK {
		return 0, 0, e
	}
	if size < len(b) {
		return 0, 0, ErrForm
	}
	return x, size, api.OK
}

// Fold returns the fold of a signed number.
func Fold(y int64) uint64 {
	if y < 0 {
		return 2*uint64(-(y+1)) + 1 // -2^63 itself has no opposite
	}
	return 2 * uint64(y)
}

// Unfold returns the signed number with a fold.
func Unfold(x uint64) int64 {
	half := int64(x / 2)
	if x%2 == 1 {
		return -half - 1
	}
	return half
}

// Int reads a form within limits.
func Int(b []byte, at, least, most int) (int, int, api.Errno) {
	x, size, e := Read(b, at)
	if e != api.OK {
		return 0, 0, e
	}
	// A number that is no int is greater than every limit; as an int it would be negative.
	if x > math.MaxInt || int(x) < least || int(x) > most {
		return 0, 0, ErrRange
	}
	return int(x), size, api.OK
}

// All returns the forms of numbers.
func All(l []uint64) []byte {
	var b []byte
	for _, x := range l {
		b = Append(b, x)
	}
	return b
}

// forms yields the numbers whose forms some bytes are, up to the first error, which comes with 0.
func forms(b []byte) iter.Seq2[uint64, api.Errno] {
	return func(yield func(uint64, api.Errno) bool) {
		for at := 0; at < len(b); {
			x, size, e := Read(b, at)
			if !yield(x, e) || e != api.OK {
				return
			}
			at += size
		}
	}
}

// Split returns the numbers with some forms.
func Split(b []byte) ([]uint64, api.Errno) {
	var l []uint64
	for x, e := range forms(b) {
		if e != api.OK {
			return nil, e
		}
		l = append(l, x)
	}
	return l, api.OK
}

// Compare compares the numbers of two forms.
func Compare(a, b []byte) (int, api.Errno) {
	x, _, e := Last(a)
	if e != api.OK {
		return 0, e
	}
	y, _, e := Last(b)
	if e != api.OK {
		return 0, e
	}
	return cmp.Compare(x, y), api.OK
}
