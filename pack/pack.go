// Package pack stores lists of unsigned integers with a fixed number of bits each, without gaps.
package pack

import (
	"iter"
	"math/bits"

	"stackyard/api"
)

const maxWidth = 64

// Width is the smallest width that all the numbers have.
func Width(l ...uint64) int {
	var all uint64
	for _, n := range l {
		all |= n
	}
	return bits.Len64(all)
}

// Size is how many bytes n numbers of w bits each take.
func Size(n, w int) (int, api.Errno) {
	if n < 0 || n > api.MaxList || w < 0 || w > maxWidth {
		return 0, api.ErrArg
	}
	return (n*w + 7) / 8, api.OK
}

// Pack lays the numbers as bits, w for each.
func Pack(w int, l ...uint64) ([]byte, api.Errno) {
	size, e := Size(len(l), w)
	if e != api.OK || Width(l...) > w {
		return nil, api.ErrArg
	}
	b := make([]byte, size)
	for at := range ones(w, l) {
		b[at/8] |= 1 << (at % 8)
	}
	return b, api.OK
}

// Unpack reads n numbers of w bits each.
func Unpack(b []byte, n, w int) ([]uint64, api.Errno) {
	size, e := Size(n, w)
	if e != api.OK {
		return nil, e
	}
	if len(b) != size {
		return nil, api.ErrPackByte
	}
	l := make([]uint64, n)
	for at := range ones(8, b) {
		if at >= n*w {
			return nil, api.ErrPackByte
		}
		l[at/w] |= 1 << (at % w)
	}
	return l, api.OK
}

// ones visits the places of the bits that are set, of numbers that have w bits each.
func ones[N uint8 | uint64](w int, l []N) iter.Seq[int] {
	return func(yield func(int) bool) {
		for i, n := range l {
			for rest := uint64(n); rest != 0; rest &= rest - 1 {
				if !yield(i*w + bits.TrailingZeros64(rest)) {
					return
				}
			}
		}
	}
}
