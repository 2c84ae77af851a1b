package lsm

import (
	"glacier/api"
	"glacier/codec"
)

const (
	longestKey   = 1<<16 - 1
	longestBatch = api.MaxValue / 4 // bytes of a Value, and of all Keys and Values together
)

// tooLong tells whether writes are, one of them or all together. A Value that is too long makes all so.
func tooLong(writes []api.Write) bool {
	all := 0
	for _, w := range writes {
		if len(w.Key) > longestKey {
			return true
		}
		all += len(w.Key) + len(w.Value)
	}
	return all > longestBatch
}

// lasts tells the writes that count: of each Key the last one. For them a frame always has room; of writes without bytes
// to the same Key there may be more than it has room for.
func lasts(writes []api.Write) []api.Write {
	last := map[string]int{}
	for i, w := range writes {
		last[w.Key] = i
	}
	batch := make([]api.Write, 0, len(last))
	for i, w := range writes {
		if last[w.Key] == i {
			batch = append(batch, w)
		}
	}
	return batch
}

// inBytes tells a batch as a payload of the log: of each write its Key, and whether it is Gone; if not, its Value.
func inBytes(batch []api.Write) []byte {
	var b []byte
	for _, w := range batch {
		b = append(b, codec.Bytes(nil, []byte(w.Key))...)
		if w.Gone {
			b = append(b, 1)
		} else {
			b = append(b, 0)
			b = append(b, codec.Bytes(nil, w.Value)...)
		}
	}
	return b
}

// readBatch reads what inBytes wrote; false, if it has not written that.
func readBatch(b []byte) ([]api.Write, bool) {
	var batch []api.Write
	for len(b) > 0 {
		w, size, is := readWrite(b)
		if !is {
			return nil, false
		}
		batch = append(batch, w)
		b = b[size:]
	}
	return batch, len(batch) > 0
}

// readWrite reads the write at the front of b, and tells how many bytes it has.
func readWrite(b []byte) (api.Write, int, bool) {
	key, size, err := codec.ReadBytes(b, longestKey)
	if err != api.OK || size == len(b) || b[size] > 1 {
		return api.Write{}, 0, false
	}
	w := api.Write{Key: string(key), Gone: b[size] == 1}
	size++
	if w.Gone {
		return w, size, true
	}
	value, more, err := codec.ReadBytes(b[size:], longestBatch)
	if err != api.OK {
		return api.Write{}, 0, false
	}
	w.Value = value
	return w, size + more, true
}

// replay takes the batches of the log. What is none was laid there by somebody else, and is passed over: to end with
// it would be to lose what stands behind it.
func (t *DB) replay(payloads [][]byte) {
	for _, p := range payloads {
		if batch, is := readBatch(p); is {
			t.take(batch)
		}
	}
}

// take takes a batch into memory, under the next number. The log has batches in the order of their numbers, none left
// out, so these need not be written.
func (t *DB) take(batch []api.Write) {
	t.seq++
	for _, w := range batch {
		t.memory.Put(api.Entry{Key: w.Key, Seq: t.seq, Gone: w.Gone, Value: w.Value})
	}
}
