package codec_test

import (
	"bytes"
	"math"
	"testing"

	"glacier/api"
	"glacier/codec"
)

func TestP103Bytes(t *testing.T) {
	long := noise(1, 128)
	for _, c := range []struct {
		b     []byte
		parts [][]byte
		want  []byte
	}{
		{nil, nil, []byte{0}},
		{nil, [][]byte{nil, {}}, []byte{0}},
		{[]byte{7}, nil, []byte{7, 0}},
		{nil, [][]byte{[]byte("abc")}, []byte("\x03abc")},
		{[]byte{7, 8}, [][]byte{[]byte("ab"), nil, []byte("c")}, []byte("\x07\x08\x03abc")},
		{nil, [][]byte{long[:127]}, append([]byte{0x7F}, long[:127]...)},
		{nil, [][]byte{long[:127], long[127:]}, append([]byte{0x80, 1}, long...)},
	} {
		if b := codec.Bytes(c.b, c.parts...); !bytes.Equal(b, c.want) {
			t.Errorf("P103: Bytes(% x, % x) = % x; want % x", c.b, c.parts, b, c.want)
		}
	}
}

func TestP103ReadBytes(t *testing.T) {
	for _, c := range []struct {
		b    string
		most int
		want string
		n    int
		err  api.Errno
	}{
		{"\x03abc", 3, "abc", 4, api.OK},
		{"\x03abcd", 3, "abc", 4, api.OK},
		{"\x03abc", math.MaxInt, "abc", 4, api.OK},
		{"\x03abc", 2, "", 0, api.ErrLong},
		{"\x03abc", 0, "", 0, api.ErrLong},
		{"\x03abc", -1, "", 0, api.ErrLong},
		{"\x03abc", math.MinInt, "", 0, api.ErrLong},
		{"\x01a", -1, "", 0, api.ErrLong},
		{"\x00", 0, "", 1, api.OK},
		{"\x00x", -1, "", 1, api.OK},
		{"\x00x", math.MinInt, "", 1, api.OK},
		{"", 9, "", 0, api.ErrShort},
		{"\x80", 9, "", 0, api.ErrShort},
		{"\x80\x00", 9, "", 0, api.ErrCanon},
		{"\x83\x00abc", 9, "", 0, api.ErrCanon},
		{"\x03ab", 3, "", 0, api.ErrShort},
		{"\x03", 3, "", 0, api.ErrShort},
		{"\x03ab", 2, "", 0, api.ErrLong},
		{"\x83\x00", -1, "", 0, api.ErrCanon},
	} {
		if l, n, err := codec.ReadBytes([]byte(c.b), c.most); string(l) != c.want || n != c.n || err != c.err {
			t.Errorf("P103: ReadBytes(%q, %d) = %q, %d, %v; want %q, %d, %v", c.b, c.most, l, n, err, c.want, c.n, c.err)
		}
	}
}

func TestP103LengthsThatNoSliceHas(t *testing.T) {
	for _, c := range []struct {
		v    uint64
		most int
		want api.Errno
	}{
		{math.MaxUint64, math.MaxInt, api.ErrLong},
		{1 << 63, math.MaxInt, api.ErrLong},
		{math.MaxInt64, math.MaxInt, api.ErrShort},
		{math.MaxInt64 - 9, math.MaxInt, api.ErrShort},
		{math.MaxUint64, -1, api.ErrLong},
	} {
		b := append(codec.Number(nil, c.v), "abc"...)
		if l, n, err := codec.ReadBytes(b, c.most); len(l) != 0 || n != 0 || err != c.want {
			t.Errorf("P103: a length of %d, at most %d: %q, %d, %v; want %v", c.v, c.most, l, n, err, c.want)
		}
	}
}

func TestP103FrontsOfBytesAreShort(t *testing.T) {
	b := codec.Bytes(nil, noise(2, 200))
	for i := range b {
		if l, n, err := codec.ReadBytes(b[:i], 200); len(l) != 0 || n != 0 || err != api.ErrShort {
			t.Errorf("P103: a front of %d bytes: %q, %d, %v; want short", i, l, n, err)
		}
	}
}

func TestP105BytesAreReadBack(t *testing.T) {
	for _, n := range []int{0, 1, 2, 127, 128, 129, 1<<14 - 1, 1 << 14, 1 << 20} {
		b := noise(int64(n), n)
		w := codec.Bytes(nil, b[:n/2], b[n/2:])
		if l, took, err := codec.ReadBytes(append(w, 5), n); !bytes.Equal(l, b) || took != len(w) || err != api.OK {
			t.Errorf("P105: %d bytes are read back as %d, %d, %v", n, len(l), took, err)
		}
	}
}

func TestP2BytesLeaveWhatTheyGet(t *testing.T) {
	front, frontWhole := guard(t, "ab")
	part, partWhole := guard(t, "cd")
	one := codec.Bytes(front, part, part[:0])
	scribble(codec.Bytes(front, part))
	scribble(codec.Bytes(front))
	scribble(codec.Bytes(nil, part))
	frontWhole()
	partWhole()
	if string(one) != "ab\x02cd" {
		t.Errorf("P2: % x has changed", one)
	}
}

func TestP2ReadBytesTellsNewMemory(t *testing.T) {
	b, whole := guard(t, "\x02cd\x00")
	l, _, _ := codec.ReadBytes(b, 2)
	scribble(l)
	l, _, _ = codec.ReadBytes(b[3:], 2)
	scribble(l)
	whole()
}
