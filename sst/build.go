package sst

import (
	"slices"

	"glacier/api"
	"glacier/codec"
	"glacier/merge"
)

const (
	longestKey   = 1<<16 - 1
	longestValue = api.MaxValue / 2
)

// refused tells why no table is made of such entries, with such blocks.
func refused(l []api.Entry, block int) api.Errno {
	switch {
	case block < 1 || block > api.MaxValue:
		return api.ErrArg
	case !merge.Right(l):
		return api.ErrOrder
	case slices.ContainsFunc(l, tooLong):
		return api.ErrLong
	}
	return api.OK
}

func tooLong(e api.Entry) bool { return len(e.Key) > longestKey || len(e.Value) > longestValue }

// written tells the table of entries.
func written(l []api.Entry, block int) []byte {
	var table []byte
	var x index
	for rest := l; len(rest) > 0; {
		laid, payload := fill(rest, block)
		frame := codec.Frame(payload)
		x.add(laid[0].Key, len(frame))
		table = append(table, frame...)
		rest = rest[len(laid):]
	}
	f := foot{index: uint64(len(table)), count: uint64(len(l))}
	table = append(table, codec.Frame(x.rows)...)
	f.filter = uint64(len(table))
	table = append(table, codec.Frame(filterOf(l))...)
	return append(table, f.inBytes()...)
}

// fill lays entries into a block until it has at least so many bytes. It tells those that are laid, and the payload.
func fill(l []api.Entry, block int) ([]api.Entry, []byte) {
	n := 0
	var payload []byte
	for n < len(l) && len(payload) < block {
		payload = append(payload, entryInBytes(l[n])...)
		n++
	}
	return l[:n:n], payload
}

func entryInBytes(e api.Entry) []byte {
	b := codec.Number(codec.Bytes(nil, []byte(e.Key)), e.Seq)
	if e.Gone {
		b = append(b, 1)
	} else {
		b = append(b, 0)
	}
	return codec.Bytes(b, e.Value)
}
