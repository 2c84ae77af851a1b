package codec_test

import (
	"bytes"
	"math"
	"math/rand"
	"slices"
	"testing"

	"glacier/api"
	"glacier/codec"
)

// times tells n times the byte c, and tail behind it.
func times(n int, c byte, tail ...byte) []byte {
	return append(bytes.Repeat([]byte{c}, n), tail...)
}

// edges tells numbers at which their bytes grow in count, and some beside.
func edges() []uint64 {
	l := []uint64{0, 300, math.MaxUint64}
	for i := range 64 {
		l = append(l, 1<<i-1, 1<<i, 1<<i+1)
	}
	return l
}

func TestP102Number(t *testing.T) {
	for _, c := range []struct {
		v    uint64
		want []byte
	}{
		{0, []byte{0}},
		{1, []byte{1}},
		{127, []byte{0x7F}},
		{128, []byte{0x80, 1}},
		{300, []byte{0xAC, 2}},
		{1<<14 - 1, []byte{0xFF, 0x7F}},
		{1 << 14, []byte{0x80, 0x80, 1}},
		{1<<63 - 1, times(8, 0xFF, 0x7F)},
		{1 << 63, times(9, 0x80, 1)},
		{math.MaxUint64, times(9, 0xFF, 1)},
	} {
		if b := codec.Number(nil, c.v); !bytes.Equal(b, c.want) {
			t.Errorf("P102: Number(nil, %d) = % x; want % x", c.v, b, c.want)
		}
		if b := codec.Number([]byte{9, 8}, c.v); !bytes.Equal(b, append([]byte{9, 8}, c.want...)) {
			t.Errorf("P102: Number(09 08, %d) = % x; want % x behind 09 08", c.v, b, c.want)
		}
	}
}

func TestP102NumberHasAsFewBytesAsItTakes(t *testing.T) {
	for _, v := range edges() {
		want := 1
		for w := v >> 7; w > 0; w >>= 7 {
			want++
		}
		if b := codec.Number(nil, v); len(b) != want {
			t.Errorf("P102: Number(nil, %d) = % x; want %d bytes", v, b, want)
		}
	}
}

func TestP102ReadNumber(t *testing.T) {
	for _, c := range []struct {
		b   []byte
		v   uint64
		n   int
		err api.Errno
	}{
		{nil, 0, 0, api.ErrShort},
		{[]byte{0}, 0, 1, api.OK},
		{[]byte{0, 0}, 0, 1, api.OK},
		{[]byte{0x7F}, 127, 1, api.OK},
		{[]byte{0xAC, 2, 9}, 300, 2, api.OK},
		{[]byte{0x80}, 0, 0, api.ErrShort},
		{[]byte{0x80, 0}, 0, 0, api.ErrCanon},
		{[]byte{0xFF, 0}, 0, 0, api.ErrCanon},
		{[]byte{0x80, 0x80, 0, 1}, 0, 0, api.ErrCanon},
		{times(8, 0xFF, 0x7F), 1<<63 - 1, 9, api.OK},
		{times(9, 0x80), 0, 0, api.ErrShort},
		{times(9, 0x80, 1), 1 << 63, 10, api.OK},
		{times(9, 0xFF, 1), math.MaxUint64, 10, api.OK},
		{times(9, 0xFF, 1, 0xFF), math.MaxUint64, 10, api.OK},
		{times(9, 0x80, 0), 0, 0, api.ErrCanon},
		{times(9, 0x80, 2), 0, 0, api.ErrCanon},
		{times(9, 0xFF, 0x7F), 0, 0, api.ErrCanon},
		{times(10, 0xFF), 0, 0, api.ErrCanon},
		{times(10, 0x80), 0, 0, api.ErrCanon},
		{times(10, 0x80, 1), 0, 0, api.ErrCanon},
		{times(99, 0xFF), 0, 0, api.ErrCanon},
	} {
		if v, n, err := codec.ReadNumber(c.b); v != c.v || n != c.n || err != c.err {
			t.Errorf("P102: ReadNumber(% x) = %d, %d, %v; want %d, %d, %v", c.b, v, n, err, c.v, c.n, c.err)
		}
	}
}

func TestP102FrontsOfNumbersAreShort(t *testing.T) {
	for _, v := range edges() {
		b := codec.Number(nil, v)
		for i := range b {
			if w, n, err := codec.ReadNumber(b[:i]); w != 0 || n != 0 || err != api.ErrShort {
				t.Errorf("P102: ReadNumber(% x) = %d, %d, %v; want short", b[:i], w, n, err)
			}
		}
	}
}

func TestP102LastByteOfTen(t *testing.T) {
	for i := range 256 {
		b := times(9, 0xAA, byte(i))
		want := api.ErrCanon
		if i == 1 {
			want = api.OK
		}
		if _, _, err := codec.ReadNumber(b); err != want {
			t.Errorf("P102: ReadNumber(% x): %v; want %v", b, err, want)
		}
	}
}

func TestP105NumbersAreReadBack(t *testing.T) {
	for _, v := range edges() {
		b := codec.Number(nil, v)
		if w, n, err := codec.ReadNumber(append(b, 0x80, 7)); w != v || n != len(b) || err != api.OK {
			t.Errorf("P105: ReadNumber(Number(%d)) = %d, %d, %v; want all %d bytes", v, w, n, err, len(b))
		}
	}
}

// checkNumber holds what ReadNumber tells of any bytes against Number and against the words of P102.
func checkNumber(t *testing.T, b []byte) {
	t.Helper()
	v, n, err := codec.ReadNumber(b)
	switch {
	case err == api.OK:
		if w := codec.Number(nil, v); !bytes.Equal(w, b[:n]) {
			t.Fatalf("P105: ReadNumber(% x) = %d, %d; Number of it % x", b, v, n, w)
		}
	case v != 0 || n != 0:
		t.Fatalf("P4: ReadNumber(% x) = %d, %d beside %v", b, v, n, err)
	case (err == api.ErrShort) != (len(b) < 10 && !slices.ContainsFunc(b, isLast)) || err != api.ErrShort && err != api.ErrCanon:
		t.Fatalf("P102: ReadNumber(% x): %v", b, err)
	}
}

// isLast tells whether a number ends with c.
func isLast(c byte) bool { return c < 0x80 }

func TestP105OfAnyBytes(t *testing.T) {
	for i := range 1 << 16 {
		checkNumber(t, []byte{byte(i), byte(i >> 8)})
	}
	draw := rand.New(rand.NewSource(3))
	for range 20000 {
		b := make([]byte, draw.Intn(13))
		for i := range b {
			b[i] = byte(draw.Intn(256))
			if draw.Intn(4) > 0 { // most go on, so that long ones come up
				b[i] |= 0x80
			}
		}
		checkNumber(t, b)
	}
}

func TestP2NumberLeavesItsFront(t *testing.T) {
	front, whole := guard(t, "ab")
	one := codec.Number(front, 300)
	two := codec.Number(front, 7)
	whole()
	scribble(two)
	whole()
	if string(one) != "ab\xAC\x02" {
		t.Errorf("P2: % x has changed", one)
	}
	scribble(codec.Number(front[:0], 1))
	codec.ReadNumber(front)
	whole()
}
