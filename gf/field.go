package gf

import "glacier/api"

// The powers of x, as the bits of an element; x to the 8 has no place in one.
const (
	x0 = 1 << iota
	_
	x2
	x3
	x4
	_
	_
	_
	x8
)

const (
	elements = x8
	units    = elements - 1      // all of them but 0
	overflow = x4 | x3 | x2 | x0 // what x to the 8 is, by the field's polynomial
)

// double tells a times 2.
func double(a byte) byte { return a<<1 ^ a>>7*overflow }

// powerOfZero tells 0 to the n.
func powerOfZero(n int) (byte, api.Errno) {
	switch {
	case n < 0:
		return 0, api.ErrArg
	case n == 0:
		return 1, api.OK
	}
	return 0, api.OK
}

// multiples are those of one element: of the low four bits of another, and of its high four bits. So a
// whole row is multiplied by looking up, which takes a small part of the time that Mul takes.
type multiples struct {
	low, high [16]byte
}

func multiplesOf(a byte) *multiples {
	return &multiples{low: sixteen(a), high: sixteen(Mul(a, 16))}
}

// sixteen tells a times each of 0 to 15.
func sixteen(a byte) [16]byte {
	var all [16]byte
	for i := range all {
		all[i] = Add(double(all[i/2]), byte(i)&1*a)
	}
	return all
}

func (m *multiples) times(b byte) byte { return Add(m.low[b&0xF], m.high[b>>4]) }
