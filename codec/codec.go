// Package codec: checksums, numbers, frames. See doc/01-codec.md.
package codec

import (
	"bytes"

	"glacier/api"
)

const (
	maxNumber = 10 // bytes of a number of 64 bits, at most
	sumBytes  = 4  // bytes of a frame's Sum
)

// Number tells b, and v behind it.
func Number(b []byte, v uint64) []byte {
	return appendNumber(apart(b, maxNumber), v)
}

// ReadNumber tells the number at the front of b, and how many bytes it has.
func ReadNumber(b []byte) (uint64, int, api.Errno) {
	var v uint64
	for i := range maxNumber {
		if i == len(b) {
			return 0, 0, api.ErrShort
		}
		c := b[i]
		v |= uint64(c&0x7F) << (7 * i)
		if c&0x80 == 0 {
			if badEnd(c, i) {
				return 0, 0, api.ErrCanon
			}
			return v, i + 1, api.OK
		}
	}
	return 0, 0, api.ErrCanon
}

// badEnd tells whether c may not be the last byte of a number, at place i: a last byte of 0 could be
// left out, and the last of ten has room for one bit of 64.
func badEnd(c byte, i int) bool {
	return i > 0 && c == 0 || i == maxNumber-1 && c > 1
}

// Bytes tells b, and behind it the parts as one, with their length ahead.
func Bytes(b []byte, parts ...[]byte) []byte {
	size := 0
	for _, p := range parts {
		size += len(p)
	}
	out := appendNumber(apart(b, maxNumber+size), uint64(size))
	for _, p := range parts {
		out = append(out, p...)
	}
	return out
}

// ReadBytes tells the bytes at the front of b that Bytes wrote, at most so many, and how many bytes of b that takes.
func ReadBytes(b []byte, most int) ([]byte, int, api.Errno) {
	n, size, err := readLength(b, max(most, 0), 0)
	if err != api.OK {
		return nil, 0, err
	}
	return bytes.Clone(b[n : n+size]), n + size, api.OK
}

// Frame tells the frame of a payload.
func Frame(payload []byte) []byte {
	return Frames(payload)
}

// ReadFrame tells the payload of the frame at the front of b, and how many bytes the frame has.
func ReadFrame(b []byte) ([]byte, int, api.Errno) {
	n, size, err := readLength(b, api.MaxValue, sumBytes)
	if err != api.OK {
		return nil, 0, err
	}
	from := n + sumBytes
	payload := b[from : from+size]
	if Sum(payload) != readSum(b[n:]) {
		return nil, 0, api.ErrSum
	}
	return bytes.Clone(payload), from + size, api.OK
}

// Frames tells the frames of the payloads, behind one another.
func Frames(payloads ...[]byte) []byte {
	size := 0
	for _, p := range payloads {
		size += maxNumber + sumBytes + len(p)
	}
	out := make([]byte, 0, size)
	for _, p := range payloads {
		out = appendNumber(out, uint64(len(p)))
		out = appendSum(out, Sum(p))
		out = append(out, p...)
	}
	return out
}

// ReadFrames tells the payloads of the frames from the front of b on, how many bytes these have, and
// what is wrong behind them.
func ReadFrames(b []byte) ([][]byte, int, api.Errno) {
	var payloads [][]byte
	at := 0
	for at < len(b) {
		p, n, err := ReadFrame(b[at:])
		if err != api.OK {
			return payloads, at, err
		}
		payloads = append(payloads, p)
		at += n
	}
	return payloads, at, api.OK
}

// readLength tells how many bytes the length at the front of b takes, and the length itself: b has so
// many bytes, and extra ones, behind it.
func readLength(b []byte, most, extra int) (int, int, api.Errno) {
	v, n, err := ReadNumber(b)
	if err != api.OK {
		return 0, 0, err
	}
	if v > uint64(most) {
		return 0, 0, api.ErrLong
	}
	// Taken off len(b), not added to the length: that may be the greatest int.
	if size := int(v); size <= len(b)-n-extra {
		return n, size, api.OK
	}
	return 0, 0, api.ErrShort
}

// apart tells a copy of b with room for more bytes: to append to b itself would write into its owner's spare room.
func apart(b []byte, more int) []byte {
	return append(make([]byte, 0, len(b)+more), b...)
}

func appendNumber(b []byte, v uint64) []byte {
	for v >= 0x80 {
		b = append(b, byte(v)|0x80)
		v >>= 7
	}
	return append(b, byte(v))
}
