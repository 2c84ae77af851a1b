package codec_test

import (
	"bytes"
	"hash/crc32"
	"testing"

	"glacier/codec"
)

// slowSum goes by the words of P101, a bit at a time: the remainder's highest bit goes out first, so it is turned round at the end.
func slowSum(b []byte) uint32 {
	rest := ^uint32(0)
	for _, c := range b {
		for i := range 8 {
			out := rest>>31 ^ uint32(c>>i&1)
			rest = rest<<1 ^ out*0x1EDC6F41
		}
	}
	var turned uint32
	for i := range 32 {
		turned |= rest >> i & 1 << (31 - i)
	}
	return ^turned
}

func TestP101SumOfNothing(t *testing.T) {
	for i, s := range []uint32{codec.Sum(), codec.Sum(nil), codec.Sum([]byte{}), codec.Sum(nil, []byte{}, nil)} {
		if s != 0 {
			t.Errorf("P101: of no bytes, way %d: %08X; want 0", i, s)
		}
	}
}

func TestP101SumOfKnownBytes(t *testing.T) {
	for _, c := range []struct {
		b    []byte
		want uint32
	}{
		{[]byte("123456789"), 0xE3069283},
		{[]byte("a"), 0xC1D04330},
		{make([]byte, 32), 0x8A9136AA},
		{bytes.Repeat([]byte{0xFF}, 32), 0x62A8AB43},
	} {
		if s := codec.Sum(c.b); s != c.want {
			t.Errorf("P101: Sum(% x) = %08X; want %08X", c.b, s, c.want)
		}
	}
}

func TestP101SumGoesByTheWords(t *testing.T) {
	for i := range 256 {
		one := []byte{byte(i)}
		if s, want := codec.Sum(one), slowSum(one); s != want {
			t.Errorf("P101: Sum(% x) = %08X; want %08X", one, s, want)
		}
	}
	for n := range 300 {
		b := noise(int64(n), n)
		if s, want := codec.Sum(b), slowSum(b); s != want {
			t.Errorf("P101: of %d bytes: %08X; want %08X", n, s, want)
		}
	}
}

func TestP101SumOfMuch(t *testing.T) {
	b := noise(1, 1<<20)
	if s, want := codec.Sum(b), crc32.Checksum(b, crc32.MakeTable(crc32.Castagnoli)); s != want {
		t.Errorf("P101: of %d bytes: %08X; want %08X", len(b), s, want)
	}
}

func TestP106SumOfPartsIsThatOfAll(t *testing.T) {
	b := noise(2, 24)
	whole := codec.Sum(b)
	for i := 0; i <= len(b); i++ {
		for j := i; j <= len(b); j++ {
			if s := codec.Sum(b[:i], b[i:j], nil, b[j:]); s != whole {
				t.Fatalf("P106: cut at %d and %d: %08X; want %08X", i, j, s, whole)
			}
		}
	}
	single := make([][]byte, len(b))
	for i := range b {
		single[i] = b[i : i+1]
	}
	if s := codec.Sum(single...); s != whole {
		t.Errorf("P106: a part each byte: %08X; want %08X", s, whole)
	}
}

func TestP106OneBitMakesAnotherSum(t *testing.T) {
	for _, n := range []int{1, 2, 15, 16, 17, 127, 128, 1000} {
		b := noise(int64(n), n)
		whole := codec.Sum(b)
		for i := range 8 * n {
			b[i/8] ^= 1 << (i % 8)
			if codec.Sum(b) == whole {
				t.Fatalf("P106: of %d bytes: bit %d makes no other Sum", n, i)
			}
			b[i/8] ^= 1 << (i % 8)
		}
	}
}

func TestP2SumChangesNothing(t *testing.T) {
	a, whole := guard(t, "abc")
	codec.Sum(a, a)
	whole()
}
