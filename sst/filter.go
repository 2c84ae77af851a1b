package sst

import (
	"glacier/api"
	"glacier/codec"
)

const (
	bitsOfKey  = 10 // bits of a filter for each Key, at least
	leastBytes = 8  // bytes of the filter of few Keys
)

// filter has some bits set for each Key of a table: one of which a bit is not set is not there.
type filter []byte

// filterOf tells the filter of entries in order, in which those of one Key stand behind one another.
func filterOf(l []api.Entry) filter {
	keys := 0
	for i := range l {
		if firstOfKey(l, i) {
			keys++
		}
	}
	f := make(filter, max((bitsOfKey*keys+7)/8, leastBytes))
	for i, e := range l {
		if firstOfKey(l, i) {
			f.add(e.Key)
		}
	}
	return f
}

func firstOfKey(l []api.Entry, i int) bool { return i == 0 || l[i-1].Key != l[i].Key }

func (f filter) add(key string) {
	for _, i := range f.bits(key) {
		f[i/8] |= 1 << (i % 8)
	}
}

// may tells whether all bits of a key are set. (A Table that was not opened has no bits.)
func (f filter) may(key string) bool {
	if len(f) == 0 {
		return false
	}
	for _, i := range f.bits(key) {
		if f[i/8]&(1<<(i%8)) == 0 {
			return false
		}
	}
	return true
}

// bits tells the places of a key's bits.
func (f filter) bits(key string) [4]uint64 {
	begin, step := uint64(codec.Sum([]byte(key))), uint64(codec.Sum([]byte(key), []byte{1}))
	var places [4]uint64
	for j := range uint64(len(places)) {
		places[j] = (begin + j*step) % (8 * uint64(len(f)))
	}
	return places
}
