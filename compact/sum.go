package compact

import "math/bits"

// sum is a number in two words: Sizes may be such that all of them together have no room in one.
type sum struct{ high, low uint64 }

func (s sum) plus(n int) sum {
	low, carry := bits.Add64(s.low, uint64(n), 0)
	// Of a number below 0 the higher word is all ones.
	return sum{s.high + uint64(int64(n)>>63) + carry, low}
}

func (s sum) above(n uint64) bool { return int64(s.high) > 0 || s.high == 0 && s.low > n }
