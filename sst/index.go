package sst

import (
	"glacier/api"
	"glacier/codec"
)

// index is the payload of a table's index in the making, and the place at which the next block begins.
type index struct {
	rows []byte
	next int
}

// add adds a block, by its first entry's Key and the bytes of its frame.
func (x *index) add(first string, size int) {
	row := codec.Bytes(nil, []byte(first))
	row = codec.Number(row, uint64(x.next))
	row = codec.Number(row, uint64(size))
	x.rows = append(x.rows, row...)
	x.next += size
}

const (
	footNumbers = 3 * 8 // bytes of a foot's numbers
	sumBytes    = 4
	footBytes   = footNumbers + sumBytes
)

// foot is what stands at a table's end: the places of index and filter, and how many entries there are.
type foot struct {
	index, filter, count uint64
}

func (f foot) inBytes() []byte {
	b := make([]byte, 0, footBytes)
	for _, v := range [...]uint64{f.index, f.filter, f.count} {
		b = appendLowFirst(b, v, 8)
	}
	return appendLowFirst(b, uint64(codec.Sum(b)), sumBytes)
}

// readFoot reads the foot that begins at a place, where index and filter must lie ahead of it.
func readFoot(b []byte, at int) (foot, api.Errno) {
	if readLowFirst(b[footNumbers:]) != uint64(codec.Sum(b[:footNumbers])) {
		return foot{}, api.ErrSum
	}
	f := foot{index: readLowFirst(b[:8]), filter: readLowFirst(b[8:16]), count: readLowFirst(b[16:footNumbers])}
	if f.index >= f.filter || f.filter >= uint64(at) {
		return foot{}, api.ErrForm
	}
	return f, api.OK
}

// appendLowFirst writes the lowest n bytes of a number.
func appendLowFirst(b []byte, v uint64, n int) []byte {
	for range n {
		b = append(b, byte(v))
		v >>= 8
	}
	return b
}

// readLowFirst reads a number of as many bytes as b has.
func readLowFirst(b []byte) uint64 {
	var v uint64
	for i, c := range b {
		v |= uint64(c) << (8 * i)
	}
	return v
}
