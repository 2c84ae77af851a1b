package sst_test

import (
	"encoding/binary"
	"hash/crc32"
	"slices"

	"glacier/api"
)

// The chapter's words written down plainly, by means of their own.

func plainSum(b []byte) uint32 { return crc32.Checksum(b, crc32.MakeTable(crc32.Castagnoli)) }

func plainBytes(b []byte) []byte {
	return append(binary.AppendUvarint(nil, uint64(len(b))), b...)
}

func plainFrame(payload []byte) []byte {
	b := binary.AppendUvarint(nil, uint64(len(payload)))
	b = binary.LittleEndian.AppendUint32(b, plainSum(payload))
	return append(b, payload...)
}

func plainEntry(e api.Entry) []byte {
	b := binary.AppendUvarint(plainBytes([]byte(e.Key)), e.Seq)
	flag := byte(0)
	if e.Gone {
		flag = 1
	}
	return slices.Concat(b, []byte{flag}, plainBytes(e.Value))
}

func plainPayload(l []api.Entry) []byte {
	var b []byte
	for _, e := range l {
		b = append(b, plainEntry(e)...)
	}
	return b
}

// plainBlocks lays entries into blocks: one begins another when the one ahead has enough.
func plainBlocks(l []api.Entry, block int) [][]api.Entry {
	var blocks [][]api.Entry
	for _, e := range l {
		if n := len(blocks); n > 0 && len(plainPayload(blocks[n-1])) < block {
			blocks[n-1] = append(blocks[n-1], e)
		} else {
			blocks = append(blocks, []api.Entry{e})
		}
	}
	return blocks
}

// plainBits tells the four bits of a key among m.
func plainBits(key string, m uint64) []uint64 {
	a, b := uint64(plainSum([]byte(key))), uint64(plainSum([]byte(key+"\x01")))
	return []uint64{a % m, (a + b) % m, (a + 2*b) % m, (a + 3*b) % m}
}

// plainFilter tells the bits of a filter.
func plainFilter(keys map[string]bool) []byte {
	m := 64
	for m < 10*len(keys) {
		m += 8
	}
	filter := make([]byte, m/8)
	for key := range keys {
		for _, i := range plainBits(key, uint64(m)) {
			filter[i/8] |= byte(1 << (i % 8))
		}
	}
	return filter
}

func plainFoot(index, filter, count uint64) []byte {
	b := binary.LittleEndian.AppendUint64(nil, index)
	b = binary.LittleEndian.AppendUint64(b, filter)
	b = binary.LittleEndian.AppendUint64(b, count)
	return binary.LittleEndian.AppendUint32(b, plainSum(b))
}

// parts are those of a table, to be laid together as they are, or in part as they may not be.
type parts struct {
	blocks        [][]byte // frames
	index, filter []byte   // frames
	count         uint64
}

// plainParts tells the parts of the table whose blocks have these entries.
func plainParts(blocks ...[]api.Entry) parts {
	var p parts
	var rows []byte
	at := 0
	keys := map[string]bool{}
	for _, l := range blocks {
		frame := plainFrame(plainPayload(l))
		p.blocks = append(p.blocks, frame)
		if len(l) > 0 {
			rows = append(rows, plainBytes([]byte(l[0].Key))...)
		} else {
			rows = append(rows, 0)
		}
		rows = binary.AppendUvarint(rows, uint64(at))
		rows = binary.AppendUvarint(rows, uint64(len(frame)))
		at += len(frame)
		for _, e := range l {
			p.count++
			keys[e.Key] = true
		}
	}
	p.index, p.filter = plainFrame(rows), plainFrame(plainFilter(keys))
	return p
}

// at tells the place of a block; of the index, if there are no more, of the filter, and of the foot.
func (p parts) at(i int) int {
	all := append(slices.Clone(p.blocks), p.index, p.filter)
	return len(slices.Concat(all[:i]...))
}

func (p parts) indexAt() int  { return p.at(len(p.blocks)) }
func (p parts) filterAt() int { return p.at(len(p.blocks) + 1) }
func (p parts) footAt() int   { return p.at(len(p.blocks) + 2) }

// bytes lays the parts together.
func (p parts) bytes() []byte {
	b := slices.Concat(slices.Concat(p.blocks...), p.index, p.filter)
	return append(b, plainFoot(uint64(p.indexAt()), uint64(p.filterAt()), p.count)...)
}

// withBlock tells the parts with one block of another payload, and an index to which that one is right.
func (p parts) withBlock(i int, payload []byte) parts { return p.withFrame(i, plainFrame(payload)) }

// withFrame likewise, with a frame, or what stands in its place.
func (p parts) withFrame(i int, frame []byte) parts {
	p.blocks = slices.Clone(p.blocks)
	p.blocks[i] = frame
	var rows []byte
	for i, frame := range p.blocks {
		rows = append(rows, plainBytes([]byte(firstKey(frame)))...)
		rows = binary.AppendUvarint(rows, uint64(p.at(i)))
		rows = binary.AppendUvarint(rows, uint64(len(frame)))
	}
	p.index = plainFrame(rows)
	return p
}

// firstKey tells the Key at which a frame begins, as far as there is one.
func firstKey(frame []byte) string {
	_, n := binary.Uvarint(frame)
	if n <= 0 || n+4 > len(frame) {
		return ""
	}
	payload := frame[n+4:]
	size, n := binary.Uvarint(payload)
	if n <= 0 || size > uint64(len(payload)-n) {
		return ""
	}
	return string(payload[n : n+int(size)])
}
